/- My own work: the walk of Parse. -/
import Derived.Test.YtkbhckjpmgkgjaaGreatDoorV7
import Derived.Test.YtkbhckjpmgkgjaaGreatDoorRCell
namespace Go.Proofs.YtkbhckjpmgkgjaaGreatDoor
open Go.RowKit

theorem resultsPa : Tryz.f54.results = #[.cell 2 112, .tmp 3] := by kernel_rfl
theorem bel_setRow {B g : Nat} {w0 w : World} (h : Below B w0 w) (hg : B ≤ g) (C : Array Value) : Below B w0 (w.setRow g C) := h.trans ⟨rfl, rfl, rfl, by simp [World.setRow], fun k hk => setRow_other w g k C (by omega)⟩
/-- Parse's answer. -/
def parseE (s : ByteArray) : Value := match parseV (vb s) with
  | none => .tuple #[verV zeroV, .int .i64 20]
  | some v => .tuple #[verV v, .int .i64 0]
theorem parseE_no {s : ByteArray} (h : parseV (vb s) = none) : parseE s = .tuple #[verV zeroV, .int .i64 20] := by unfold parseE; rw [h]
theorem parseE_yes {s : ByteArray} {v : Ver} (h : parseV (vb s) = some v) : parseE s = .tuple #[verV v, .int .i64 0] := by unfold parseE; rw [h]
abbrev zeroC : Array Value := #[.int .i64 0, .int .i64 0, .int .i64 0, .int .i64 0, .int .i64 0, .string ⟨#[]⟩]
theorem zeroC_one : zeroC.all (·.oneCell') = true := by kernel_rfl
theorem verC_one (v : Ver) : (verC v).all (·.oneCell') = true := by kernel_rfl
/-- How the tag is parted off. -/
theorem cutTag_post {s : ByteArray} {w : World} {e : Ending} {w' : World} (h : CutPost s 45 w e w') : ∃ (x y : ByteArray) (b : Bool), cutTag (vb s) = (vb x, vb y, b) ∧ x.size ≤ s.size ∧ y.size ≤ s.size ∧ e = .returned (.tuple #[.string x, .string y, .bool b]) ∧ ∃ q, w' = w.drewN q := by
  rcases h with ⟨h1, h2, h3⟩ | ⟨x, y, h1, h2, h3, h4, h5⟩
  · exact ⟨s, ⟨#[]⟩, false, by unfold cutTag; rw [h1], Nat.le_refl _, Nat.zero_le _, h2, h3⟩
  · exact ⟨x, y, true, by unfold cutTag; rw [h1], h2, h3, h4, h5⟩
section
variable {s x y : ByteArray} {b : Bool} {P : List ByteArray}
theorem parse_e1 (h : cutTag (vb s) = (vb x, vb y, true)) (ht : tagB (vb y) = false) : parseV (vb s) = none := by
  unfold parseV
  rw [h]
  simp only [ht]
  rfl
theorem parse_rest (h : cutTag (vb s) = (vb x, vb y, b)) (ht : (b && !tagB (vb y)) = false) (hP : P.map vb = splitN 4 (vb x)) :
    parseV (vb s) = if 4 < P.length then none else if P.all (fun p => isNum (vb p)) then some (mkV (P.map fun p => numOf (vb p)) y) else none := by
  unfold parseV
  rw [h]
  simp only
  rw [ht, ← hP, List.length_map, List.all_map, List.map_map]
  rfl
theorem parse_e2 (h : cutTag (vb s) = (vb x, vb y, b)) (ht : (b && !tagB (vb y)) = false) (hP : P.map vb = splitN 4 (vb x)) (hl : 4 < P.length) : parseV (vb s) = none := by rw [parse_rest h ht hP, if_pos hl]
theorem parse_e3 (h : cutTag (vb s) = (vb x, vb y, b)) (ht : (b && !tagB (vb y)) = false) (hP : P.map vb = splitN 4 (vb x)) (hl : ¬ 4 < P.length) {k : Nat} (hk : k < P.length) (hn : isNum (vb P[k]) = false) : parseV (vb s) = none := by
  rw [parse_rest h ht hP, if_neg hl, if_neg]
  rw [List.all_eq_true]
  intro e
  have := e P[k] (List.getElem_mem hk)
  rw [hn] at this
  cases this
theorem parse_yes (h : cutTag (vb s) = (vb x, vb y, b)) (ht : (b && !tagB (vb y)) = false) (hP : P.map vb = splitN 4 (vb x)) (hl : ¬ 4 < P.length) (hn : ∀ p ∈ P, isNum (vb p) = true) : parseV (vb s) = some (mkV (P.map fun p => numOf (vb p)) y) := by
  rw [parse_rest h ht hP, if_neg hl, if_pos (List.all_eq_true.2 hn)]
end
/-- Numbers in a version's cells. -/
def numsC (N : List Nat) : Array Value := #[.int .i64 (N.getD 0 0 : Nat), .int .i64 (N.getD 1 0 : Nat), .int .i64 (N.getD 2 0 : Nat), .int .i64 (N.getD 3 0 : Nat), .int .i64 0, .string ⟨#[]⟩]
theorem numsC_more (N : List Nat) (k m : Nat) (hk : N.length = k) (h4 : k < 4) : (numsC N).setIfInBounds k (.int .i64 (m : Int)) = numsC (N ++ [m]) := by
  subst hk
  match N, h4 with
  | [], _ => rfl
  | [a], _ => rfl
  | [a, b], _ => rfl
  | [a, b, c], _ => rfl
theorem numsC_end (N : List Nat) (t : ByteArray) : ((numsC N).setIfInBounds 4 (.int .i64 (N.length : Int))).setIfInBounds 5 (.string t) = verC (mkV N t) := rfl
/-- What holds while the numbers are read. -/
structure PaR (w wr : World) (h1 g : Nat) (P : List ByteArray) (k : Nat) : Prop where
  zero : Row wr w.heap.size zeroC 112
  nums : Row wr (h1) (numsC ((P.take k).map fun p => numOf (vb p))) 112
  strs : ∀ i (h : i < P.length), wr.cell? ⟨g, i, none⟩ = some (.string P[i])
  far : w.heap.size < h1 ∧ h1 < g
  bel : Below w.heap.size w wr
  good : ∀ i (h : i < P.length), i < k → isNum (vb P[i]) = true
theorem PaR.more {w wr : World} {h1 g : Nat} {P : List ByteArray} {k : Nat} (h : PaR w wr h1 g P k) (hk : k < P.length) (h4 : ¬ 4 < P.length) (hn : isNum (vb P[k]) = true) : PaR w (wr.setCell ⟨h1, k, none⟩ (.int .i64 ((numOf (vb P[k]) : Nat) : Int))) h1 g P (k + 1) where
  zero := h.zero.setCell_other (by have := h.far; omega) _
  nums := by
    have h2 := h.nums.setCell (i := k) (.int .i64 ((numOf (vb P[k]) : Nat) : Int))
    rw [numsC_more _ k _ (by rw [List.length_map, List.length_take]; omega) (by omega)] at h2
    rw [List.take_add_one, List.getElem?_eq_getElem hk, List.map_append]
    exact h2
  strs i hi := by
    have h2 := h.strs i hi
    unfold World.cell? at h2 ⊢
    rw [show (wr.setCell ⟨h1, k, none⟩ (.int .i64 ((numOf (vb P[k]) : Nat) : Int))).heap[g]? = wr.heap[g]? from heap_setCell_other wr ⟨h1, k, none⟩ g _ (by show g ≠ h1; have := h.far; omega)]
    exact h2
  far := h.far
  bel := h.bel.trans (below_set (by have := h.far; omega) _ _)
  good i hi hk2 := by
    by_cases e : i = k
    · subst e; exact hn
    · exact h.good i hi (by omega)
set_option maxRecDepth 20000 in
set_option maxHeartbeats 8000000 in
theorem parse_ok (s : ByteArray) (w : World) (hs : s.size ≤ 140737488355328) : Calls Tryz.prog 54 #[.string s] w fun e w' => e = .returned (parseE s) ∧ Below w.heap.size w w' := by
  have hZ : Row (w.alloc (.cells zeroC 112)) w.heap.size zeroC 112 := Row.new w _ _
  have hb0 : Below w.heap.size w (w.alloc (.cells zeroC 112)) := (Below.refl _ _).alloc (Nat.le_refl _) _
  obtain ⟨w1, hw1⟩ : ∃ x, x = w.alloc (.cells zeroC 112) := ⟨_, rfl⟩
  have hw1' := hw1.symm
  have hs1 : w1.heap.size = w.heap.size + 1 := by rw [hw1]; simp
  rw [← hw1] at hZ hb0
  have HS1 : Hid _ := hs1
  have hC := cut_ok s 45 w1 (by omega)
  have HZ : Hid (Row w1 w.heap.size zeroC 112) := hZ
  have HB0 : Hid _ := hb0
  clear hw1 hZ hs1 hb0
  go_enter Tryz.func54, Tryz.ntmps54
  go_wp2_with fail
  refine hC.mono ?_
  intro e w2 hp
  obtain ⟨x, y, b, hct, hxs, hys, rfl, q, rfl⟩ := cutTag_post hp
  clear hC hp hw1'
  cases b with
  | true =>
    have HCT : Hid (cutTag (vb s) = (vb x, vb y, true)) := hct
    clear hct
    have hI := isTag_ok y (w1.drewN q)
    cases htg : tagB (vb y) with
    | false =>
      have HE : Hid (parseE s = .tuple #[verV zeroV, .int .i64 20]) := parseE_no (parse_e1 HCT.out htg)
      rw [htg] at hI
      clear htg
      go_wp2_with (first | (go_at_call 83; refine hI.mono ?_; rintro e w3 ⟨rfl, hw3⟩; rw [hw3]; clear hw3) | refine wpList_store_row rfl 112 _ _ rfl w.heap.size zeroC rfl rfl 112 zeroC (show Row (w1.drewN q) w.heap.size zeroC 112 from HZ.out) infoVs rfl zeroC_one ?_)
      exact bodyPost_ret (results_cell_row2 resultsPa _ _ w.heap.size 112 zeroC (0, 0) _ rfl (Row.setRow (w := w1.drewN q) HZ.out) Tryz.underlying112 rfl infoVs) rfl ⟨by rw [HE.out]; rfl, bel_setRow (w := w1.drewN q) (HB0.out.trans ⟨rfl, rfl, rfl, Nat.le_refl _, fun _ _ => rfl⟩) (Nat.le_refl _) _⟩
    | true =>
      have HTG : Hid _ := htg
      rw [htg] at hI
      clear htg
      have HT : Hid ((true && !tagB (vb y)) = false) := by show _ = _; rw [HTG.out]; rfl
      have hr3 : Row ((w1.drewN q).alloc (.cells zeroC 112)) w1.heap.size zeroC 112 := by
        have h := Row.new (w1.drewN q) zeroC 112
        rw [show (w1.drewN q).heap.size = w1.heap.size from rfl] at h
        exact h
      have hz3 : Row ((w1.drewN q).alloc (.cells zeroC 112)) w.heap.size zeroC 112 := Row.alloc (w := (w1.drewN q)) HZ.out _
      have hb3 : Below w.heap.size w ((w1.drewN q).alloc (.cells zeroC 112)) := (HB0.out.trans (show Below w.heap.size w1 (w1.drewN q) from ⟨rfl, rfl, rfl, Nat.le_refl _, fun _ _ => rfl⟩)).alloc (by have := HS1.out; show w.heap.size ≤ w1.heap.size; omega) _
      have hs3 : ((w1.drewN q).alloc (.cells zeroC 112)).heap.size = w.heap.size + 2 := by rw [World.size_alloc]; show w1.heap.size + 1 = _; rw [HS1.out]
      obtain ⟨w3, hw3⟩ : ∃ z, z = (w1.drewN q).alloc (.cells zeroC 112) := ⟨_, rfl⟩
      rw [← hw3] at hr3 hz3 hb3 hs3
      have hw3' := hw3.symm
      have hp2 := splitN_ok x w3 (by omega)
      have HR3 : Hid _ := hr3
      have HZ3 : Hid _ := hz3
      have HB3 : Hid _ := hb3
      have HS3 : Hid _ := hs3
      clear hr3 hz3 hb3 hs3 hw3
      go_wp2_with (go_at_call 83; refine hI.mono ?_; rintro e w9 ⟨rfl, hw9⟩; rw [hw9]; clear hw9)
      refine hp2.mono ?_
      rintro e w4 ⟨g, P, c, rfl, hPs, hcells, hg1, hg2, hb4, hPc, hc5⟩
      clear hp2 hw3'
      have HPS : Hid _ := hPs
      have hz4 : Row w4 w.heap.size zeroC 112 := Row.below HZ3.out hb4 (Row.lt HZ3.out)
      have hn4 : Row w4 w1.heap.size zeroC 112 := Row.below HR3.out hb4 (Row.lt HR3.out)
      have HPA : Hid (PaR w w4 w1.heap.size g P 0) := ⟨hz4, hn4, hcells, ⟨by have := HS1.out; omega, by have := HS3.out; have := HS1.out; omega⟩, HB3.out.trans (hb4.mono (by have := HS3.out; omega)), fun i _ h => absurd h (Nat.not_lt_zero _)⟩
      clear hPs hcells hb4 hz4 hn4 hg1 hg2
      by_cases h4 : 4 < P.length
      · have HE : Hid (parseE s = .tuple #[verV zeroV, .int .i64 20]) := parseE_no (parse_e2 HCT.out HT.out HPS.out h4)
        have h4' : (4 : Int) < (P.length : Int) := by omega
        clear h4
        go_wp2_with (refine wpList_store_row rfl 112 _ _ rfl w.heap.size zeroC rfl rfl 112 zeroC HPA.out.zero infoVs rfl zeroC_one ?_)
        exact bodyPost_ret (results_cell_row2 resultsPa _ _ w.heap.size 112 zeroC (0, 0) _ rfl (Row.setRow HPA.out.zero) Tryz.underlying112 rfl infoVs) rfl ⟨by rw [HE.out]; rfl, bel_setRow HPA.out.bel (Nat.le_refl _) _⟩
      · have h4' : ¬ (4 : Int) < (P.length : Int) := by omega
        obtain ⟨n, hn⟩ : ∃ n, n = P.length := ⟨_, rfl⟩
        have HN : Hid _ := hn
        rw [← hn] at h4 h4' hPc
        rw [← hn]
        clear hn
        have HNU : Hid (∀ (p : ByteArray) wx, Calls Tryz.prog 85 #[.string p] wx fun e w' => e = .returned (numE (vb p)) ∧ w' = wx) := fun p wx => number_ok p wx
        go_wp2
        go_loopw [34] (fun i wr => ∃ k : Nat, k ≤ n ∧ i = .int .i64 k ∧ PaR w wr w1.heap.size g P k) (fun i _ => n - (intOf i).toNat)
        case atStart => exact ⟨0, Nat.zero_le _, rfl, HPA.out⟩
        case round =>
          obtain ⟨k, hk, rfl, hpa⟩ := hrel
          have HQ : Hid (PaR w wr w1.heap.size g P k) := hpa
          clear hpa
          by_cases hlt : k < n
          · have hlt' : (k : Int) < (n : Int) := by omega
            have hkP : k < P.length := by rw [← HN.out]; exact hlt
            obtain ⟨p, hp⟩ : ∃ p, p = P[k] := ⟨_, rfl⟩
            have hcell := HQ.out.strs k hkP
            rw [← hp] at hcell
            have HP : Hid (P[k] = p) := hp.symm
            have hnu := HNU.out p wr
            clear hp
            cases hin : isNum (vb p) with
            | true =>
              rw [numE_yes hin] at hnu
              have HM : Hid _ := HQ.out.more hkP (by rw [← HN.out]; exact h4) (by rw [HP.out]; exact hin)
              rw [HP.out] at HM
              obtain ⟨m, hm⟩ : ∃ m, m = numOf (vb p) := ⟨_, rfl⟩
              rw [← hm] at hnu HM
              obtain ⟨vz, hvz⟩ : ∃ vz, wr.cell? ⟨w1.heap.size, k, none⟩ = some vz := by
                have h6 : k < (numsC ((P.take k).map fun p => numOf (vb p))).size := by show k < 6; omega
                exact ⟨_, (HQ.out.nums.cell k).trans (Array.getElem?_eq_getElem h6)⟩
              have hfz := HQ.out.nums.frozen k
              have hk4 : (k : Int) < 4 := by omega
              clear hin hm
              go_wp2_with (go_at_call 85; refine hnu.mono ?_; rintro e w1 ⟨rfl, hw1⟩; rw [hw1]; clear hw1)
              go_roundw
              case rel => exact ⟨k + 1, by omega, by go_num, HM.out⟩
              case measure => simp [intOf]; omega
            | false =>
              rw [numE_no hin] at hnu
              have HE : Hid (parseE s = .tuple #[verV zeroV, .int .i64 20]) := parseE_no (parse_e3 HCT.out HT.out HPS.out (by rw [← HN.out]; exact h4) hkP (by rw [HP.out]; exact hin))
              clear hin
              go_wp2_with (first | (go_at_call 85; refine hnu.mono ?_; rintro e w1 ⟨rfl, hw1⟩; rw [hw1]; clear hw1) | refine wpList_store_row rfl 112 _ _ rfl w.heap.size zeroC rfl rfl 112 zeroC HQ.out.zero infoVs rfl zeroC_one ?_)
              exact bodyPost_ret (results_cell_row2 resultsPa _ _ w.heap.size 112 zeroC (0, 0) _ rfl (Row.setRow HQ.out.zero) Tryz.underlying112 rfl infoVs) rfl ⟨by rw [HE.out]; rfl, bel_setRow HQ.out.bel (Nat.le_refl _) _⟩
          · have hlt' : ¬ (k : Int) < (n : Int) := by omega
            have hke : k = P.length := by have := HN.out; omega
            have HE : Hid (parseE s = .tuple #[verV (mkV (P.map fun p => numOf (vb p)) y), .int .i64 0]) := parseE_yes (parse_yes HCT.out HT.out HPS.out (by rw [← HN.out]; exact h4) (fun p hp => by
              obtain ⟨i, hi, rfl⟩ := List.getElem_of_mem hp
              exact HQ.out.good i hi (by omega)))
            have hn5 := HQ.out.nums
            rw [hke, List.take_length] at hn5
            have hlN : (P.map fun p => numOf (vb p)).length = n := by rw [List.length_map]; exact HN.out.symm
            generalize hNN : (P.map fun p => numOf (vb p)) = N at hn5 HE hlN
            have h5s := hn5.setCell (i := 4) (.int .i64 (n : Int))
            have c4 : wr.cell? ⟨w1.heap.size, 4, none⟩ = some (.int .i64 0) := (hn5.cell 4).trans rfl
            have f4 := hn5.frozen 4
            have hz5 : Row (wr.setCell ⟨w1.heap.size, 4, none⟩ (.int .i64 (n : Int))) w.heap.size zeroC 112 := HQ.out.zero.setCell_other (by have := HS1.out; omega) _
            have hb5 : Below w.heap.size w (wr.setCell ⟨w1.heap.size, 4, none⟩ (.int .i64 (n : Int))) := HQ.out.bel.trans (below_set (by have := HS1.out; omega) _ _)
            obtain ⟨w5, hw5⟩ : ∃ z, z = wr.setCell ⟨w1.heap.size, 4, none⟩ (.int .i64 (n : Int)) := ⟨_, rfl⟩
            rw [← hw5] at h5s hz5 hb5
            have hw5' := hw5.symm
            have hcl := clone_ok y w5 (by omega)
            have H5 : Hid _ := h5s
            have HZ5 : Hid _ := hz5
            have HB5 : Hid _ := hb5
            have HL : Hid _ := hlN
            clear hke hn5 hNN h5s hz5 hb5 hw5 hlN
            go_wp2_with fail
            refine hcl.mono ?_
            rintro e w6 ⟨rfl, hb6⟩
            have h6r : Row w6 w1.heap.size _ 112 := Row.below H5.out hb6 (Row.lt H5.out)
            have c5 : w6.cell? ⟨w1.heap.size, 5, none⟩ = some (.string ⟨#[]⟩) := (h6r.cell 5).trans rfl
            have f5 := h6r.frozen 5
            have h7r := h6r.setCell (i := 5) (.string y)
            rw [← HL.out] at h7r
            rw [numsC_end N y] at h7r
            have hz7 : Row (w6.setCell ⟨w1.heap.size, 5, none⟩ (.string y)) w.heap.size zeroC 112 := (Row.below HZ5.out hb6 (Row.lt HZ5.out)).setCell_other (by have := HS1.out; omega) _
            have hb7 : Below w.heap.size w (w6.setCell ⟨w1.heap.size, 5, none⟩ (.string y)) := (HB5.out.trans (hb6.mono HB5.out.size)).trans (below_set (by have := HS1.out; omega) _ _)
            obtain ⟨w7, hw7⟩ : ∃ z, z = w6.setCell ⟨w1.heap.size, 5, none⟩ (.string y) := ⟨_, rfl⟩
            rw [← hw7] at h7r hz7 hb7
            have hw7' := hw7.symm
            have H7 : Hid _ := h7r
            have HZ7 : Hid _ := hz7
            have HB7 : Hid _ := hb7
            clear hcl hb6 h6r h7r hz7 hb7 hw7 hw5' c4 f4
            obtain ⟨CV, hCV⟩ : ∃ CV, CV = verC (mkV N y) := ⟨_, rfl⟩
            have HCV : Hid _ := hCV
            have hiCV : (Tryz.prog.info? 112).map (·.size) = some CV.size := by rw [hCV]; exact infoVs
            have hoCV : CV.all (·.oneCell') = true := by rw [hCV]; exact verC_one _
            have hsCV : zeroC.size = CV.size := by rw [hCV]; rfl
            rw [← hCV] at H7
            clear hCV
            go_wp2_with (first | refine wpList_load_row rfl 112 _ rfl w1.heap.size rfl 112 _ (0, 0) _ H7.out Tryz.underlying112 rfl hiCV ?_ | refine wpList_store_row rfl 112 _ _ rfl w.heap.size CV rfl rfl 112 zeroC HZ7.out hiCV hsCV hoCV ?_)
            exact bodyPost_ret (results_cell_row2 resultsPa _ _ w.heap.size 112 CV (0, 0) _ rfl (Row.setRow HZ7.out) Tryz.underlying112 rfl hiCV) rfl ⟨by rw [HE.out, HCV.out]; rfl, bel_setRow HB7.out (Nat.le_refl _) _⟩
  | false =>
    have HCT : Hid (cutTag (vb s) = (vb x, vb y, false)) := hct
    clear hct
    have HT : Hid ((false && !tagB (vb y)) = false) := by show _ = _; rfl
    have hr3 : Row ((w1.drewN q).alloc (.cells zeroC 112)) w1.heap.size zeroC 112 := by
      have h := Row.new (w1.drewN q) zeroC 112
      rw [show (w1.drewN q).heap.size = w1.heap.size from rfl] at h
      exact h
    have hz3 : Row ((w1.drewN q).alloc (.cells zeroC 112)) w.heap.size zeroC 112 := Row.alloc (w := (w1.drewN q)) HZ.out _
    have hb3 : Below w.heap.size w ((w1.drewN q).alloc (.cells zeroC 112)) := (HB0.out.trans (show Below w.heap.size w1 (w1.drewN q) from ⟨rfl, rfl, rfl, Nat.le_refl _, fun _ _ => rfl⟩)).alloc (by have := HS1.out; show w.heap.size ≤ w1.heap.size; omega) _
    have hs3 : ((w1.drewN q).alloc (.cells zeroC 112)).heap.size = w.heap.size + 2 := by rw [World.size_alloc]; show w1.heap.size + 1 = _; rw [HS1.out]
    obtain ⟨w3, hw3⟩ : ∃ z, z = (w1.drewN q).alloc (.cells zeroC 112) := ⟨_, rfl⟩
    rw [← hw3] at hr3 hz3 hb3 hs3
    have hw3' := hw3.symm
    have hp2 := splitN_ok x w3 (by omega)
    have HR3 : Hid _ := hr3
    have HZ3 : Hid _ := hz3
    have HB3 : Hid _ := hb3
    have HS3 : Hid _ := hs3
    clear hr3 hz3 hb3 hs3 hw3
    go_wp2_with fail
    refine hp2.mono ?_
    rintro e w4 ⟨g, P, c, rfl, hPs, hcells, hg1, hg2, hb4, hPc, hc5⟩
    clear hp2 hw3'
    have HPS : Hid _ := hPs
    have hz4 : Row w4 w.heap.size zeroC 112 := Row.below HZ3.out hb4 (Row.lt HZ3.out)
    have hn4 : Row w4 w1.heap.size zeroC 112 := Row.below HR3.out hb4 (Row.lt HR3.out)
    have HPA : Hid (PaR w w4 w1.heap.size g P 0) := ⟨hz4, hn4, hcells, ⟨by have := HS1.out; omega, by have := HS3.out; have := HS1.out; omega⟩, HB3.out.trans (hb4.mono (by have := HS3.out; omega)), fun i _ h => absurd h (Nat.not_lt_zero _)⟩
    clear hPs hcells hb4 hz4 hn4 hg1 hg2
    by_cases h4 : 4 < P.length
    · have HE : Hid (parseE s = .tuple #[verV zeroV, .int .i64 20]) := parseE_no (parse_e2 HCT.out HT.out HPS.out h4)
      have h4' : (4 : Int) < (P.length : Int) := by omega
      clear h4
      go_wp2_with (refine wpList_store_row rfl 112 _ _ rfl w.heap.size zeroC rfl rfl 112 zeroC HPA.out.zero infoVs rfl zeroC_one ?_)
      exact bodyPost_ret (results_cell_row2 resultsPa _ _ w.heap.size 112 zeroC (0, 0) _ rfl (Row.setRow HPA.out.zero) Tryz.underlying112 rfl infoVs) rfl ⟨by rw [HE.out]; rfl, bel_setRow HPA.out.bel (Nat.le_refl _) _⟩
    · have h4' : ¬ (4 : Int) < (P.length : Int) := by omega
      obtain ⟨n, hn⟩ : ∃ n, n = P.length := ⟨_, rfl⟩
      have HN : Hid _ := hn
      rw [← hn] at h4 h4' hPc
      rw [← hn]
      clear hn
      have HNU : Hid (∀ (p : ByteArray) wx, Calls Tryz.prog 85 #[.string p] wx fun e w' => e = .returned (numE (vb p)) ∧ w' = wx) := fun p wx => number_ok p wx
      go_wp2
      go_loopw [34] (fun i wr => ∃ k : Nat, k ≤ n ∧ i = .int .i64 k ∧ PaR w wr w1.heap.size g P k) (fun i _ => n - (intOf i).toNat)
      case atStart => exact ⟨0, Nat.zero_le _, rfl, HPA.out⟩
      case round =>
        obtain ⟨k, hk, rfl, hpa⟩ := hrel
        have HQ : Hid (PaR w wr w1.heap.size g P k) := hpa
        clear hpa
        by_cases hlt : k < n
        · have hlt' : (k : Int) < (n : Int) := by omega
          have hkP : k < P.length := by rw [← HN.out]; exact hlt
          obtain ⟨p, hp⟩ : ∃ p, p = P[k] := ⟨_, rfl⟩
          have hcell := HQ.out.strs k hkP
          rw [← hp] at hcell
          have HP : Hid (P[k] = p) := hp.symm
          have hnu := HNU.out p wr
          clear hp
          cases hin : isNum (vb p) with
          | true =>
            rw [numE_yes hin] at hnu
            have HM : Hid _ := HQ.out.more hkP (by rw [← HN.out]; exact h4) (by rw [HP.out]; exact hin)
            rw [HP.out] at HM
            obtain ⟨m, hm⟩ : ∃ m, m = numOf (vb p) := ⟨_, rfl⟩
            rw [← hm] at hnu HM
            obtain ⟨vz, hvz⟩ : ∃ vz, wr.cell? ⟨w1.heap.size, k, none⟩ = some vz := by
              have h6 : k < (numsC ((P.take k).map fun p => numOf (vb p))).size := by show k < 6; omega
              exact ⟨_, (HQ.out.nums.cell k).trans (Array.getElem?_eq_getElem h6)⟩
            have hfz := HQ.out.nums.frozen k
            have hk4 : (k : Int) < 4 := by omega
            clear hin hm
            go_wp2_with (go_at_call 85; refine hnu.mono ?_; rintro e w1 ⟨rfl, hw1⟩; rw [hw1]; clear hw1)
            go_roundw
            case rel => exact ⟨k + 1, by omega, by go_num, HM.out⟩
            case measure => simp [intOf]; omega
          | false =>
            rw [numE_no hin] at hnu
            have HE : Hid (parseE s = .tuple #[verV zeroV, .int .i64 20]) := parseE_no (parse_e3 HCT.out HT.out HPS.out (by rw [← HN.out]; exact h4) hkP (by rw [HP.out]; exact hin))
            clear hin
            go_wp2_with (first | (go_at_call 85; refine hnu.mono ?_; rintro e w1 ⟨rfl, hw1⟩; rw [hw1]; clear hw1) | refine wpList_store_row rfl 112 _ _ rfl w.heap.size zeroC rfl rfl 112 zeroC HQ.out.zero infoVs rfl zeroC_one ?_)
            exact bodyPost_ret (results_cell_row2 resultsPa _ _ w.heap.size 112 zeroC (0, 0) _ rfl (Row.setRow HQ.out.zero) Tryz.underlying112 rfl infoVs) rfl ⟨by rw [HE.out]; rfl, bel_setRow HQ.out.bel (Nat.le_refl _) _⟩
        · have hlt' : ¬ (k : Int) < (n : Int) := by omega
          have hke : k = P.length := by have := HN.out; omega
          have HE : Hid (parseE s = .tuple #[verV (mkV (P.map fun p => numOf (vb p)) y), .int .i64 0]) := parseE_yes (parse_yes HCT.out HT.out HPS.out (by rw [← HN.out]; exact h4) (fun p hp => by
            obtain ⟨i, hi, rfl⟩ := List.getElem_of_mem hp
            exact HQ.out.good i hi (by omega)))
          have hn5 := HQ.out.nums
          rw [hke, List.take_length] at hn5
          have hlN : (P.map fun p => numOf (vb p)).length = n := by rw [List.length_map]; exact HN.out.symm
          generalize hNN : (P.map fun p => numOf (vb p)) = N at hn5 HE hlN
          have h5s := hn5.setCell (i := 4) (.int .i64 (n : Int))
          have c4 : wr.cell? ⟨w1.heap.size, 4, none⟩ = some (.int .i64 0) := (hn5.cell 4).trans rfl
          have f4 := hn5.frozen 4
          have hz5 : Row (wr.setCell ⟨w1.heap.size, 4, none⟩ (.int .i64 (n : Int))) w.heap.size zeroC 112 := HQ.out.zero.setCell_other (by have := HS1.out; omega) _
          have hb5 : Below w.heap.size w (wr.setCell ⟨w1.heap.size, 4, none⟩ (.int .i64 (n : Int))) := HQ.out.bel.trans (below_set (by have := HS1.out; omega) _ _)
          obtain ⟨w5, hw5⟩ : ∃ z, z = wr.setCell ⟨w1.heap.size, 4, none⟩ (.int .i64 (n : Int)) := ⟨_, rfl⟩
          rw [← hw5] at h5s hz5 hb5
          have hw5' := hw5.symm
          have hcl := clone_ok y w5 (by omega)
          have H5 : Hid _ := h5s
          have HZ5 : Hid _ := hz5
          have HB5 : Hid _ := hb5
          have HL : Hid _ := hlN
          clear hke hn5 hNN h5s hz5 hb5 hw5 hlN
          go_wp2_with fail
          refine hcl.mono ?_
          rintro e w6 ⟨rfl, hb6⟩
          have h6r : Row w6 w1.heap.size _ 112 := Row.below H5.out hb6 (Row.lt H5.out)
          have c5 : w6.cell? ⟨w1.heap.size, 5, none⟩ = some (.string ⟨#[]⟩) := (h6r.cell 5).trans rfl
          have f5 := h6r.frozen 5
          have h7r := h6r.setCell (i := 5) (.string y)
          rw [← HL.out] at h7r
          rw [numsC_end N y] at h7r
          have hz7 : Row (w6.setCell ⟨w1.heap.size, 5, none⟩ (.string y)) w.heap.size zeroC 112 := (Row.below HZ5.out hb6 (Row.lt HZ5.out)).setCell_other (by have := HS1.out; omega) _
          have hb7 : Below w.heap.size w (w6.setCell ⟨w1.heap.size, 5, none⟩ (.string y)) := (HB5.out.trans (hb6.mono HB5.out.size)).trans (below_set (by have := HS1.out; omega) _ _)
          obtain ⟨w7, hw7⟩ : ∃ z, z = w6.setCell ⟨w1.heap.size, 5, none⟩ (.string y) := ⟨_, rfl⟩
          rw [← hw7] at h7r hz7 hb7
          have hw7' := hw7.symm
          have H7 : Hid _ := h7r
          have HZ7 : Hid _ := hz7
          have HB7 : Hid _ := hb7
          clear hcl hb6 h6r h7r hz7 hb7 hw7 hw5' c4 f4
          obtain ⟨CV, hCV⟩ : ∃ CV, CV = verC (mkV N y) := ⟨_, rfl⟩
          have HCV : Hid _ := hCV
          have hiCV : (Tryz.prog.info? 112).map (·.size) = some CV.size := by rw [hCV]; exact infoVs
          have hoCV : CV.all (·.oneCell') = true := by rw [hCV]; exact verC_one _
          have hsCV : zeroC.size = CV.size := by rw [hCV]; rfl
          rw [← hCV] at H7
          clear hCV
          go_wp2_with (first | refine wpList_load_row rfl 112 _ rfl w1.heap.size rfl 112 _ (0, 0) _ H7.out Tryz.underlying112 rfl hiCV ?_ | refine wpList_store_row rfl 112 _ _ rfl w.heap.size CV rfl rfl 112 zeroC HZ7.out hiCV hsCV hoCV ?_)
          exact bodyPost_ret (results_cell_row2 resultsPa _ _ w.heap.size 112 CV (0, 0) _ rfl (Row.setRow HZ7.out) Tryz.underlying112 rfl hiCV) rfl ⟨by rw [HE.out, HCV.out]; rfl, bel_setRow HB7.out (Nat.le_refl _) _⟩
end Go.Proofs.YtkbhckjpmgkgjaaGreatDoor
