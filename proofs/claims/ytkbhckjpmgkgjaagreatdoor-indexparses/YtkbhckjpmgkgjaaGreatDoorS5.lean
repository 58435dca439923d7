/- My own work: strings.SplitN at one byte, seventeen parts at most. -/
import Derived.Test.YtkbhckjpmgkgjaaGreatDoorV5
namespace Go.Proofs.YtkbhckjpmgkgjaaGreatDoor
open Go.RowKit

/-- A text parted at a byte, at most so many times. -/
def splitB (c : UInt8) : Nat → By → List By
  | 0, l => [l]
  | k + 1, l => match cutAt c l with
    | none => [l]
    | some p => p.1 :: splitB c k p.2
theorem splitB_pos (c : UInt8) (k : Nat) (l : By) : 1 ≤ (splitB c k l).length := by
  cases k with
  | zero => exact Nat.le_refl _
  | succ k =>
    unfold splitB
    split
    · exact Nat.le_refl _
    · rw [List.length_cons]; omega
/-- What SplitN tells. -/
def SplitPB (c : UInt8) (s : ByteArray) (w : World) (e : Ending) (w' : World) : Prop :=
  ∃ (g : Nat) (P : List ByteArray) (cp : Nat), e = .returned (.slice (some ⟨g, 0, none⟩) P.length cp) ∧ P.map vb = splitB c 16 (vb s) ∧ (∀ i (h : i < P.length), w'.cell? ⟨g, i, none⟩ = some (.string P[i])) ∧ w.heap.size ≤ g ∧ g < w'.heap.size ∧ Below w.heap.size w w' ∧ P.length ≤ cp ∧ cp ≤ 17
theorem splitB_room {c : UInt8} {k : Nat} {l : By} (h : l.length ≤ k) : splitB c (k + 1) l = splitB c k l := by
  induction k generalizing l with
  | zero =>
    obtain rfl := List.eq_nil_of_length_eq_zero (Nat.le_zero.1 h)
    rfl
  | succ k ih =>
    unfold splitB
    rcases index_cut l c with ⟨_, h2⟩ | ⟨j, _, h2, h3⟩
    · rw [h2]
    · rw [h3]
      show _ :: splitB c (k + 1) (l.drop (j + 1)) = _ :: splitB c k (l.drop (j + 1))
      rw [ih (by rw [List.length_drop]; omega)]
theorem splitB_less {c : UInt8} {k : Nat} {l : By} (h : l.length ≤ k) (d : Nat) : splitB c k l = splitB c (k + d) l := by
  induction d with
  | zero => rfl
  | succ d ih => rw [ih, ← Nat.add_assoc, splitB_room (Nat.le_trans h (Nat.le_add_right _ _))]
/-- What holds while it is parted. -/
def SplitRB (c : UInt8) (s : ByteArray) (w : World) (m : Nat) (wr : World) (k : Nat) (x : ByteArray) : Prop :=
  ∃ P : List ByteArray, P.length = k ∧ SpAt wr w.heap.size (m + 1) P ∧ splitB c 16 (vb s) = P.map vb ++ splitB c (m - k) (vb x) ∧ Below w.heap.size w wr ∧ x.size ≤ s.size
theorem SplitRB.last {c : UInt8} {s : ByteArray} {w : World} {m : Nat} {wr : World} {k : Nat} {x : ByteArray} (h : SplitRB c s w m wr k x) (hk : k ≤ m) (hm : m ≤ 16) (he : splitB c (m - k) (vb x) = [vb x]) :
    SplitPB c s w (.returned (.slice (some ⟨w.heap.size, 0, none⟩) (k + 1) (m + 1))) (wr.setCell ⟨w.heap.size, k, none⟩ (.string x)) := by
  obtain ⟨P, h1, h2, h3, h4, h5⟩ := h
  have h6 := h2.more h1 (by omega) x
  refine ⟨w.heap.size, P ++ [x], m + 1, ?_, ?_, fun i hi => h6.at i hi, Nat.le_refl _, h6.lt, h4.trans (below_set (Nat.le_refl _) _ _), h6.le, by omega⟩
  · rw [List.length_append, h1]
    rfl
  · rw [h3, List.map_append, he]
    rfl
theorem SplitRB.more {c : UInt8} {s : ByteArray} {w : World} {m : Nat} {wr : World} {k : Nat} {x : ByteArray} (h : SplitRB c s w m wr k x) (hk : k < m) {j : Nat} (hj : j < x.size) (he : cutAt c (vb x) = some ((vb x).take j, (vb x).drop (j + 1))) :
    SplitRB c s w m (wr.setCell ⟨w.heap.size, k, none⟩ (.string (x.extract 0 j))) (k + 1) (x.extract (j + 1) x.size) := by
  obtain ⟨P, h1, h2, h3, h4, h5⟩ := h
  refine ⟨P ++ [x.extract 0 j], by rw [List.length_append, h1]; rfl, h2.more h1 (by omega) _, ?_, h4.trans (below_set (Nat.le_refl _) _ _), by rw [ByteArray.size_extract]; omega⟩
  rw [h3, show m - k = (m - (k + 1)) + 1 by omega]
  rw [show splitB c ((m - (k + 1)) + 1) (vb x) = (vb x).take j :: splitB c (m - (k + 1)) ((vb x).drop (j + 1)) by rw [splitB, he], List.map_append, List.append_assoc, vb_extract, List.take_of_length_le (by rw [vb_len]; omega : (vb x).length ≤ x.size)]
  show _ = P.map vb ++ ([vb (x.extract 0 j)] ++ _)
  rw [vb_extract, List.drop_zero]
  rfl
theorem SplitRB.facts {c : UInt8} {s : ByteArray} {w : World} {m : Nat} {wr : World} {k : Nat} {x : ByteArray} (h : SplitRB c s w m wr k x) (hk : k ≤ m) : (∃ z, wr.cell? ⟨w.heap.size, k, none⟩ = some (.string z)) ∧ wr.frozen? ⟨w.heap.size, k, none⟩ = false ∧ x.size ≤ s.size := by
  obtain ⟨P, h1, h2, h3, h4, h5⟩ := h
  exact ⟨h2.cell (by omega), h2.frozen k, h5⟩
set_option maxRecDepth 20000 in
set_option maxHeartbeats 4000000 in
theorem genSplitB (c : UInt8) (s : ByteArray) (w : World) (hs : s.size ≤ 140737488355328) : Calls Tryz.prog 104 #[.string s, .string ⟨#[c]⟩, .int .i64 0, .int .i64 17] w (SplitPB c s w) := by
  have hlen := vb_len s
  obtain ⟨m, n, hm, hm4, HN, HS⟩ : ∃ m n : Nat, min (17 : Int) ((s.size : Int) + 1) = (n : Int) ∧ m ≤ 16 ∧ Hid (n = m + 1) ∧ Hid (splitB c m (vb s) = splitB c 16 (vb s)) := by
    by_cases h : 16 ≤ s.size
    · exact ⟨16, 17, by omega, Nat.le_refl _, rfl, rfl⟩
    · exact ⟨s.size, s.size + 1, by omega, by omega, rfl, by
      have h := splitB_less (c := c) (k := s.size) (l := vb s) (by omega) (16 - s.size)
      rw [show s.size + (16 - s.size) = 16 by omega] at h
      exact h⟩
  obtain ⟨RP, hRP⟩ : ∃ RP, RP = SplitPB c s w := ⟨_, rfl⟩
  have HRP : Hid (∀ e w', SplitPB c s w e w' → RP e w') := fun e w' h => by rw [hRP]; exact h
  rw [← hRP]
  clear hRP
  have hmk := run_make_row' (P := Tryz.prog) 38 9 (.string ByteArray.empty) 16 Tryz.underlying38 info9z rfl .i64 .i64 n (by have := HN.out; omega) (by have := HN.out; omega)
  obtain ⟨w0, hw0⟩ : ∃ x, x = w.alloc (.cells (madeCells #[Value.string ByteArray.empty] n) 9) := ⟨_, rfl⟩
  have HR0 : Hid (SplitRB c s w m w0 0 s) := by
    refine ⟨[], rfl, by rw [hw0, HN.out]; exact SpAt.made w _, HS.out.symm, by rw [hw0]; exact (Below.refl _ _).alloc (Nat.le_refl _) _, Nat.le_refl _⟩
  have hmk2 := hmk w
  rw [← hw0] at hmk2
  have hn1 : IntKind.i64.wrap ((n : Int) - 1) = (m : Int) := by rw [IntKind.wrap_i64]; have := HN.out; omega
  have hn2 : m < n := by have := HN.out; omega
  have HI : Hid (∀ x wr, Calls Tryz.prog 137 #[.string x, .string ⟨#[c]⟩] wr fun e w' => e = .returned (.int .i64 (Lib.indexByte (vb x) c)) ∧ w' = wr) := fun x wr => index_ok x c wr
  clear hmk hw0 hlen HS
  go_enter Tryz.func104, Tryz.ntmps104
  go_wp2
  go_loopw [0, 10] (fun t i wr => ∃ (k : Nat) (x : ByteArray), k ≤ m ∧ t = .string x ∧ i = .int .i64 k ∧ SplitRB c s w m wr k x) (fun _ i _ => m - (intOf i).toNat)
  case atStart => exact ⟨0, s, Nat.zero_le _, rfl, rfl, HR0.out⟩
  case round =>
    clear hmk2 hm hn1
    obtain ⟨k, x, hk, rfl, rfl, hR⟩ := hrel
    have HR : Hid (SplitRB c s w m wr k x) := hR
    clear hR
    by_cases hlt : k < m
    · have hI := HI.out x wr
      have hlt' : (k : Int) < (m : Int) := by omega
      rcases index_cut (vb x) c with ⟨h1, h2⟩ | ⟨j, h1, h2, h3⟩
      · rw [h1] at hI
        have he : splitB c (m - k) (vb x) = [vb x] := by rw [show m - k = (m - k - 1) + 1 by omega, splitB, h2]
        clear h1 h2
        have HP := HRP.out _ _ (HR.out.last (by omega) (by omega) he)
        obtain ⟨⟨z, hcz⟩, hfz, hxs⟩ := HR.out.facts (by omega)
        obtain ⟨k1, hk1⟩ : ∃ y, y = k + 1 := ⟨_, rfl⟩
        have hk1n : (k1 : Int) ≤ (n : Int) := by have := HN.out; omega
        have hwk : IntKind.i64.wrap ((k : Int) + 1) = (k1 : Int) := by rw [IntKind.wrap_i64]; omega
        have hkn : (k : Int) < (n : Int) := by omega
        rw [← hk1, ← HN.out] at HP
        clear hk1 he hxs
        go_wp2_with (go_at_call 137; refine hI.mono ?_; rintro e w1 ⟨rfl, hw1⟩; rw [hw1]; clear hw1)
        exact HP
      · rw [h1] at hI
        rw [vb_len] at h2
        have HR2 : Hid (SplitRB c s w m (wr.setCell ⟨w.heap.size, k, none⟩ (.string (x.extract 0 j))) (k + 1) (x.extract (j + 1) x.size)) := HR.out.more hlt h2 h3
        obtain ⟨⟨z, hcz⟩, hfz, hxs⟩ := HR.out.facts (by omega)
        have hkn : (k : Int) < (n : Int) := by omega
        clear h1 h3
        go_wp2_with (go_at_call 137; refine hI.mono ?_; rintro e w1 ⟨rfl, hw1⟩; rw [hw1]; clear hw1)
        go_roundw
        case rel => exact ⟨k + 1, _, by omega, rfl, by go_num, HR2.out⟩
        case measure => simp [intOf]; omega
    · have he : splitB c (m - k) (vb x) = [vb x] := by rw [show m - k = 0 by omega, splitB]
      have hlt' : ¬ (k : Int) < (m : Int) := by omega
      have HP := HRP.out _ _ (HR.out.last (by omega) (by omega) he)
      obtain ⟨⟨z, hcz⟩, hfz, hxs⟩ := HR.out.facts (by omega)
      obtain ⟨k1, hk1⟩ : ∃ y, y = k + 1 := ⟨_, rfl⟩
      have hk1n : (k1 : Int) ≤ (n : Int) := by have := HN.out; omega
      have hwk : IntKind.i64.wrap ((k : Int) + 1) = (k1 : Int) := by rw [IntKind.wrap_i64]; omega
      have hkn : (k : Int) < (n : Int) := by omega
      rw [← hk1, ← HN.out] at HP
      clear hk1 he hxs
      go_wp2
      exact HP
set_option maxRecDepth 20000 in
/-- SplitN. -/
theorem splitB_ok (c : UInt8) (s : ByteArray) (w : World) (hs : s.size ≤ 140737488355328) : Calls Tryz.prog 84 #[.string s, .string ⟨#[c]⟩, .int .i64 17] w (SplitPB c s w) := by
  have hC := genSplitB c s w hs
  obtain ⟨RP, hRP⟩ : ∃ RP, RP = SplitPB c s w := ⟨_, rfl⟩
  have HP : Hid (∀ e w', SplitPB c s w e w' → RP e w') := fun e w' h => by rw [hRP]; exact h
  rw [← hRP]
  clear hRP
  go_enter Tryz.func84, Tryz.ntmps84
  go_wp2_with fail
  refine hC.mono ?_
  intro e w1 hp
  have HQ := HP.out e w1 hp
  obtain ⟨g, P, cp, rfl, _⟩ := hp
  clear hC
  go_wp2
  exact HQ
end Go.Proofs.YtkbhckjpmgkgjaaGreatDoor
