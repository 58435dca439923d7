/- My own work: strings.Cut; strings.SplitN at a point, five parts at most. -/
import Derived.Test.YtkbhckjpmgkgjaaGreatDoorV4
namespace Go.Proofs.YtkbhckjpmgkgjaaGreatDoor
open Go.RowKit

set_option maxRecDepth 20000 in
theorem cut_ok (s : ByteArray) (c : UInt8) (w : World) (hs : s.size < 9223372036854775807) : Calls Tryz.prog 82 #[.string s, .string ⟨#[c]⟩] w (CutPost s c w) := by
  have hC := cut_in s c w hs
  obtain ⟨RP, hRP⟩ : ∃ RP, RP = CutPost s c w := ⟨_, rfl⟩
  have HP : Hid (∀ e w', CutPost s c w e w' → RP e w') := fun e w' h => by rw [hRP]; exact h
  rw [← hRP]
  clear hRP
  go_enter Tryz.func82, Tryz.ntmps82
  go_wp2_with fail
  refine hC.mono ?_
  intro e w1 hp
  have HQ := HP.out e w1 hp
  rcases hp with ⟨h1, rfl, h2⟩ | ⟨x, y, h1, h2, h3, rfl, h4⟩
  · clear h1 h2 hC
    go_wp2
    go_ret3
    exact HQ
  · clear h1 h2 h3 h4 hC
    go_wp2
    go_ret3
    exact HQ
theorem below_set {w : World} {B g : Nat} (h : B ≤ g) (i : Nat) (v : Value) : Below B w (w.setCell ⟨g, i, none⟩ v) :=
  ⟨rfl, rfl, rfl, by simp, fun k hk => heap_setCell_other w ⟨g, i, none⟩ k v (by show k ≠ g; omega)⟩
/-- A row of texts, of which the first are these. -/
structure SpAt (w : World) (g n : Nat) (P : List ByteArray) : Prop where
  ex : ∃ C, Row w g C 9 ∧ C.size = n ∧ (∀ i (h : i < P.length), C[i]? = some (.string P[i])) ∧ ∀ i, i < n → ∃ x, C[i]? = some (.string x)
  le : P.length ≤ n
theorem SpAt.cell {w : World} {g n : Nat} {P : List ByteArray} (h : SpAt w g n P) {i : Nat} (hi : i < n) : ∃ x, w.cell? ⟨g, i, none⟩ = some (.string x) := by
  obtain ⟨C, h1, _, _, h4⟩ := h.ex
  obtain ⟨x, hx⟩ := h4 i hi
  exact ⟨x, (h1.cell i).trans hx⟩
theorem SpAt.at {w : World} {g n : Nat} {P : List ByteArray} (h : SpAt w g n P) (i : Nat) (hi : i < P.length) : w.cell? ⟨g, i, none⟩ = some (.string P[i]) := by
  obtain ⟨C, h1, _, h3, _⟩ := h.ex
  exact (h1.cell i).trans (h3 i hi)
theorem SpAt.frozen {w : World} {g n : Nat} {P : List ByteArray} (h : SpAt w g n P) (i : Nat) : w.frozen? ⟨g, i, none⟩ = false := by
  obtain ⟨C, h1, _, _, _⟩ := h.ex
  exact h1.frozen i
theorem SpAt.lt {w : World} {g n : Nat} {P : List ByteArray} (h : SpAt w g n P) : g < w.heap.size := by
  obtain ⟨C, h1, _, _, _⟩ := h.ex
  exact h1.lt
/-- One more behind them. -/
theorem SpAt.more {w : World} {g n : Nat} {P : List ByteArray} (h : SpAt w g n P) {k : Nat} (hk : P.length = k) (hn : k < n) (x : ByteArray) : SpAt (w.setCell ⟨g, k, none⟩ (.string x)) g n (P ++ [x]) := by
  obtain ⟨C, h1, h2, h3, h4⟩ := h.ex
  subst hk
  refine ⟨⟨_, h1.setCell (.string x), by rw [Array.size_setIfInBounds, h2], fun i hi => ?_, fun i hi => ?_⟩, by rw [List.length_append]; show P.length + 1 ≤ n; omega⟩
  · rw [Array.getElem?_setIfInBounds]
    by_cases e : P.length = i
    · subst e
      rw [if_pos rfl, if_pos (by omega)]
      simp
    · have hi' : i < P.length := by rw [List.length_append] at hi; have : i < P.length + 1 := hi; omega
      rw [if_neg e, h3 i hi', List.getElem_append_left hi']
  · rw [Array.getElem?_setIfInBounds]
    by_cases e : P.length = i
    · rw [if_pos e, if_pos (by omega)]
      exact ⟨x, rfl⟩
    · rw [if_neg e]
      exact h4 i hi
theorem info9z : (Tryz.prog.info? 9).map (fun i => (i.zero, i.size, i.bytes)) = some (some (.string ByteArray.empty), 1, 16) := by kernel_rfl
theorem SpAt.made (w : World) (n : Nat) : SpAt (w.alloc (.cells (madeCells #[Value.string ByteArray.empty] n) 9)) w.heap.size n [] := by
  refine ⟨⟨_, Row.new w _ _, by rw [size_madeCells], fun i hi => absurd hi (by simp), fun i hi => ⟨ByteArray.empty, ?_⟩⟩, Nat.zero_le _⟩
  rw [← Array.getElem?_toList, toList_madeCells_one, List.getElem?_replicate, if_pos hi]
/-- What SplitN tells. -/
def SplitPost (s : ByteArray) (w : World) (e : Ending) (w' : World) : Prop :=
  ∃ (g : Nat) (P : List ByteArray) (c : Nat), e = .returned (.slice (some ⟨g, 0, none⟩) P.length c) ∧ P.map vb = splitN 4 (vb s) ∧ (∀ i (h : i < P.length), w'.cell? ⟨g, i, none⟩ = some (.string P[i])) ∧ w.heap.size ≤ g ∧ g < w'.heap.size ∧ Below w.heap.size w w' ∧ P.length ≤ c ∧ c ≤ 5
theorem splitN_room {k : Nat} {l : By} (h : l.length ≤ k) : splitN (k + 1) l = splitN k l := by
  induction k generalizing l with
  | zero =>
    obtain rfl := List.eq_nil_of_length_eq_zero (Nat.le_zero.1 h)
    rfl
  | succ k ih =>
    unfold splitN
    rcases index_cut l 46 with ⟨_, h2⟩ | ⟨j, _, h2, h3⟩
    · rw [h2]
    · rw [h3]
      show _ :: splitN (k + 1) (l.drop (j + 1)) = _ :: splitN k (l.drop (j + 1))
      rw [ih (by rw [List.length_drop]; omega)]
theorem splitN_less {k : Nat} {l : By} (h : l.length ≤ k) (hk : k ≤ 4) : splitN k l = splitN 4 l := by
  have h4 : k = 0 ∨ k = 1 ∨ k = 2 ∨ k = 3 ∨ k = 4 := by omega
  rcases h4 with rfl | rfl | rfl | rfl | rfl
  · rw [← splitN_room h, ← splitN_room (Nat.le_trans h (by omega)), ← splitN_room (Nat.le_trans h (by omega)), ← splitN_room (Nat.le_trans h (by omega))]
  · rw [← splitN_room h, ← splitN_room (Nat.le_trans h (by omega)), ← splitN_room (Nat.le_trans h (by omega))]
  · rw [← splitN_room h, ← splitN_room (Nat.le_trans h (by omega))]
  · rw [← splitN_room h]
  · rfl
/-- What holds while it is parted. -/
def SplitR (s : ByteArray) (w : World) (m : Nat) (wr : World) (k : Nat) (x : ByteArray) : Prop :=
  ∃ P : List ByteArray, P.length = k ∧ SpAt wr w.heap.size (m + 1) P ∧ splitN 4 (vb s) = P.map vb ++ splitN (m - k) (vb x) ∧ Below w.heap.size w wr ∧ x.size ≤ s.size
theorem SplitR.last {s : ByteArray} {w : World} {m : Nat} {wr : World} {k : Nat} {x : ByteArray} (h : SplitR s w m wr k x) (hk : k ≤ m) (hm : m ≤ 4) (he : splitN (m - k) (vb x) = [vb x]) :
    SplitPost s w (.returned (.slice (some ⟨w.heap.size, 0, none⟩) (k + 1) (m + 1))) (wr.setCell ⟨w.heap.size, k, none⟩ (.string x)) := by
  obtain ⟨P, h1, h2, h3, h4, h5⟩ := h
  have h6 := h2.more h1 (by omega) x
  refine ⟨w.heap.size, P ++ [x], m + 1, ?_, ?_, fun i hi => h6.at i hi, Nat.le_refl _, h6.lt, h4.trans (below_set (Nat.le_refl _) _ _), h6.le, by omega⟩
  · rw [List.length_append, h1]
    rfl
  · rw [h3, List.map_append, he]
    rfl
theorem SplitR.more {s : ByteArray} {w : World} {m : Nat} {wr : World} {k : Nat} {x : ByteArray} (h : SplitR s w m wr k x) (hk : k < m) {j : Nat} (hj : j < x.size) (he : cutAt 46 (vb x) = some ((vb x).take j, (vb x).drop (j + 1))) :
    SplitR s w m (wr.setCell ⟨w.heap.size, k, none⟩ (.string (x.extract 0 j))) (k + 1) (x.extract (j + 1) x.size) := by
  obtain ⟨P, h1, h2, h3, h4, h5⟩ := h
  refine ⟨P ++ [x.extract 0 j], by rw [List.length_append, h1]; rfl, h2.more h1 (by omega) _, ?_, h4.trans (below_set (Nat.le_refl _) _ _), by rw [ByteArray.size_extract]; omega⟩
  rw [h3, show m - k = (m - (k + 1)) + 1 by omega]
  rw [show splitN ((m - (k + 1)) + 1) (vb x) = (vb x).take j :: splitN (m - (k + 1)) ((vb x).drop (j + 1)) by rw [splitN, he], List.map_append, List.append_assoc, vb_extract, List.take_of_length_le (by rw [vb_len]; omega : (vb x).length ≤ x.size)]
  show _ = P.map vb ++ ([vb (x.extract 0 j)] ++ _)
  rw [vb_extract, List.drop_zero]
  rfl
theorem SplitR.facts {s : ByteArray} {w : World} {m : Nat} {wr : World} {k : Nat} {x : ByteArray} (h : SplitR s w m wr k x) (hk : k ≤ m) : (∃ z, wr.cell? ⟨w.heap.size, k, none⟩ = some (.string z)) ∧ wr.frozen? ⟨w.heap.size, k, none⟩ = false ∧ x.size ≤ s.size := by
  obtain ⟨P, h1, h2, h3, h4, h5⟩ := h
  exact ⟨h2.cell (by omega), h2.frozen k, h5⟩
set_option maxRecDepth 20000 in
set_option maxHeartbeats 4000000 in
theorem genSplit_ok (s : ByteArray) (w : World) (hs : s.size ≤ 140737488355328) : Calls Tryz.prog 104 #[.string s, .string ⟨#[46]⟩, .int .i64 0, .int .i64 5] w (SplitPost s w) := by
  have hlen := vb_len s
  obtain ⟨m, n, hm, hm4, HN, HS⟩ : ∃ m n : Nat, min (5 : Int) ((s.size : Int) + 1) = (n : Int) ∧ m ≤ 4 ∧ Hid (n = m + 1) ∧ Hid (splitN m (vb s) = splitN 4 (vb s)) := by
    by_cases h : 4 ≤ s.size
    · exact ⟨4, 5, by omega, Nat.le_refl _, rfl, rfl⟩
    · exact ⟨s.size, s.size + 1, by omega, by omega, rfl, splitN_less (by omega) (by omega)⟩
  obtain ⟨RP, hRP⟩ : ∃ RP, RP = SplitPost s w := ⟨_, rfl⟩
  have HRP : Hid (∀ e w', SplitPost s w e w' → RP e w') := fun e w' h => by rw [hRP]; exact h
  rw [← hRP]
  clear hRP
  have hmk := run_make_row' (P := Tryz.prog) 38 9 (.string ByteArray.empty) 16 Tryz.underlying38 info9z rfl .i64 .i64 n (by have := HN.out; omega) (by have := HN.out; omega)
  obtain ⟨w0, hw0⟩ : ∃ x, x = w.alloc (.cells (madeCells #[Value.string ByteArray.empty] n) 9) := ⟨_, rfl⟩
  have HR0 : Hid (SplitR s w m w0 0 s) := by
    refine ⟨[], rfl, by rw [hw0, HN.out]; exact SpAt.made w _, HS.out.symm, by rw [hw0]; exact (Below.refl _ _).alloc (Nat.le_refl _) _, Nat.le_refl _⟩
  have hmk2 := hmk w
  rw [← hw0] at hmk2
  have hn1 : IntKind.i64.wrap ((n : Int) - 1) = (m : Int) := by rw [IntKind.wrap_i64]; have := HN.out; omega
  have hn2 : m < n := by have := HN.out; omega
  have HI : Hid (∀ x wr, Calls Tryz.prog 137 #[.string x, .string ⟨#[46]⟩] wr fun e w' => e = .returned (.int .i64 (Lib.indexByte (vb x) 46)) ∧ w' = wr) := fun x wr => index_ok x 46 wr
  clear hmk hw0 hlen HS
  go_enter Tryz.func104, Tryz.ntmps104
  go_wp2
  go_loopw [0, 10] (fun t i wr => ∃ (k : Nat) (x : ByteArray), k ≤ m ∧ t = .string x ∧ i = .int .i64 k ∧ SplitR s w m wr k x) (fun _ i _ => m - (intOf i).toNat)
  case atStart => exact ⟨0, s, Nat.zero_le _, rfl, rfl, HR0.out⟩
  case round =>
    clear hmk2 hm hn1
    obtain ⟨k, x, hk, rfl, rfl, hR⟩ := hrel
    have HR : Hid (SplitR s w m wr k x) := hR
    clear hR
    by_cases hlt : k < m
    · have hI := HI.out x wr
      have hlt' : (k : Int) < (m : Int) := by omega
      rcases index_cut (vb x) 46 with ⟨h1, h2⟩ | ⟨j, h1, h2, h3⟩
      · rw [h1] at hI
        have he : splitN (m - k) (vb x) = [vb x] := by rw [show m - k = (m - k - 1) + 1 by omega, splitN, h2]
        clear h1 h2
        have HP := HRP.out _ _ (HR.out.last (by omega) (by omega) he)
        obtain ⟨⟨z, hcz⟩, hfz, hxs⟩ := HR.out.facts (by omega)
        obtain ⟨k1, hk1⟩ : ∃ y, y = k + 1 := ⟨_, rfl⟩
        have hk1n : (k1 : Int) ≤ (n : Int) := by have := HN.out; omega
        have hwk : IntKind.i64.wrap ((k : Int) + 1) = (k1 : Int) := by rw [IntKind.wrap_i64]; omega
        have hkn : (k : Int) < (n : Int) := by omega
        rw [← hk1, ← HN.out] at HP
        clear hk1 he hxs
        go_wp2_with (go_at_call 137; refine hI.mono ?_; rintro e w1 ⟨rfl, hw1⟩; rw [hw1]; clear hw1)
        exact HP
      · rw [h1] at hI
        rw [vb_len] at h2
        have HR2 : Hid (SplitR s w m (wr.setCell ⟨w.heap.size, k, none⟩ (.string (x.extract 0 j))) (k + 1) (x.extract (j + 1) x.size)) := HR.out.more hlt h2 h3
        obtain ⟨⟨z, hcz⟩, hfz, hxs⟩ := HR.out.facts (by omega)
        have hkn : (k : Int) < (n : Int) := by omega
        clear h1 h3
        go_wp2_with (go_at_call 137; refine hI.mono ?_; rintro e w1 ⟨rfl, hw1⟩; rw [hw1]; clear hw1)
        go_roundw
        case rel => exact ⟨k + 1, _, by omega, rfl, by go_num, HR2.out⟩
        case measure => simp [intOf]; omega
    · have he : splitN (m - k) (vb x) = [vb x] := by rw [show m - k = 0 by omega, splitN]
      have hlt' : ¬ (k : Int) < (m : Int) := by omega
      have HP := HRP.out _ _ (HR.out.last (by omega) (by omega) he)
      obtain ⟨⟨z, hcz⟩, hfz, hxs⟩ := HR.out.facts (by omega)
      obtain ⟨k1, hk1⟩ : ∃ y, y = k + 1 := ⟨_, rfl⟩
      have hk1n : (k1 : Int) ≤ (n : Int) := by have := HN.out; omega
      have hwk : IntKind.i64.wrap ((k : Int) + 1) = (k1 : Int) := by rw [IntKind.wrap_i64]; omega
      have hkn : (k : Int) < (n : Int) := by omega
      rw [← hk1, ← HN.out] at HP
      clear hk1 he hxs
      go_wp2
      exact HP
set_option maxRecDepth 20000 in
/-- SplitN. -/
theorem splitN_ok (s : ByteArray) (w : World) (hs : s.size ≤ 140737488355328) : Calls Tryz.prog 84 #[.string s, .string ⟨#[46]⟩, .int .i64 5] w (SplitPost s w) := by
  have hC := genSplit_ok s w hs
  obtain ⟨RP, hRP⟩ : ∃ RP, RP = SplitPost s w := ⟨_, rfl⟩
  have HP : Hid (∀ e w', SplitPost s w e w' → RP e w') := fun e w' h => by rw [hRP]; exact h
  rw [← hRP]
  clear hRP
  go_enter Tryz.func84, Tryz.ntmps84
  go_wp2_with fail
  refine hC.mono ?_
  intro e w1 hp
  have HQ := HP.out e w1 hp
  obtain ⟨g, P, c, rfl, _⟩ := hp
  clear hC
  go_wp2
  exact HQ
end Go.Proofs.YtkbhckjpmgkgjaaGreatDoor
