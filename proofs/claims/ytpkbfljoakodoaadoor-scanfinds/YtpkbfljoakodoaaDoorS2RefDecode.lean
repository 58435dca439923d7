/- The walk of the document's own Decode. -/
import Derived.Test.YtpkbfljoakodoaaDoorMB
namespace Go.Proofs.YtpkbfljoakodoaaDoor.S2
set_option maxRecDepth 20000
open Go.RowKit Math

/-- The first m bits alone. -/
def first (h : Nat → Int) (m : Nat) : Nat → Int := fun p => if p < m then h p else 0
/-- The byte that the first m bits make at the place j. -/
def part (h : Nat → Int) (m j : Nat) : Int := val (first h m) (8 * j) 8

theorem first_bd (h : Nat → Int) (hh : ∀ k, 0 ≤ h k ∧ h k ≤ 1) (m : Nat) : ∀ k, 0 ≤ first h m k ∧ first h m k ≤ 1 := by
  intro k; unfold first; split
  · exact hh k
  · decide

theorem val_point (g g' : Nat → Int) (p : Nat) (c : Int) (hp : g' p = g p + c) (ho : ∀ i, i ≠ p → g' i = g i) (k l : Nat) :
    val g' k l = val g k l + if k ≤ p ∧ p < k + l then c * 2 ^ (k + l - 1 - p) else 0 := by
  induction l with
  | zero => rw [if_neg (by omega)]; simp [val]
  | succ l ih =>
    simp only [val]
    rw [ih]
    by_cases h1 : k ≤ p ∧ p < k + l
    · rw [if_pos h1, if_pos (by omega), ho (k + l) (by omega), show k + (l + 1) - 1 - p = (k + l - 1 - p) + 1 by omega, Int.pow_succ, Int.add_mul, ← Int.mul_assoc]
      omega
    · rw [if_neg h1]
      by_cases h2 : p = k + l
      · subst h2
        rw [if_pos (by omega), hp, show k + (l + 1) - 1 - (k + l) = 0 by omega]
        simp; omega
      · rw [if_neg (by omega), ho (k + l) (by omega)]; omega

theorem part_step (h : Nat → Int) (m j : Nat) : part h (m + 1) j = part h m j + if m / 8 = j then h m * 2 ^ (7 - m % 8) else 0 := by
  unfold part
  rw [val_point (first h m) (first h (m + 1)) m (h m) (by simp [first]) (fun i hi => by
    unfold first
    by_cases e : i < m
    · rw [if_pos e, if_pos (by omega)]
    · rw [if_neg e, if_neg (by omega)])]
  congr 1
  by_cases e : m / 8 = j
  · rw [if_pos e, if_pos (by omega), show 8 * j + 8 - 1 - m = 7 - m % 8 by omega]
  · rw [if_neg e, if_neg (by omega)]

theorem part_bd (h : Nat → Int) (hh : ∀ k, 0 ≤ h k ∧ h k ≤ 1) (m j : Nat) : 0 ≤ part h m j ∧ part h m j < 256 := by
  have := val_bd (first h m) (first_bd h hh m) (8 * j) 8
  unfold part; omega

theorem part_full (h : Nat → Int) (m j : Nat) (hm : 8 * j + 8 ≤ m) : part h m j = val h (8 * j) 8 :=
  val_congr _ _ _ _ (fun i hi => by unfold first; rw [if_pos (by omega)])

theorem part_zero (h : Nat → Int) (j : Nat) : part h 0 j = 0 := val_zero _ _ _ (fun i _ => by simp [first])

set_option maxHeartbeats 1000000 in
theorem refDecode_core (s : ByteArray) (vs : Nat → Nat) (m Q : Nat) (w : World) (hn : s.size ≤ 140737488351232) (hm : m ≤ s.size) (hQ1 : 8 * Q ≤ 5 * s.size) (hQ2 : 5 * s.size < 8 * Q + 8)
    (hvs : ∀ k, (h : k < s.size) → k < m → sg (vs k) = (s[k].toNat : Int)) (h32 : ∀ k, vs k < 32) (hno : (h : m < s.size) → ∀ k, k < 32 → sg k ≠ (s[m].toNat : Int))
    (h : Nat → Int) (hh : h = bitAt 5 (fun i => (vs i : Int))) (f : Nat → Int) (hf : ∀ j, f j = if j < Q then val h (8 * j) 8 else 0) (N : Nat) (hN1 : 5 * N ≤ 8 * Q + 4) (hN2 : 8 * Q ≤ 5 * N) :
    Calls Tryd.prog 42 #[.string s] w fun e w' => Below w.heap.size w w' ∧
      ((m < s.size ∧ e = .returned (.tuple #[.slice none 0 0, .int .i64 10])) ∨
       (m = s.size ∧ ((strOfNums (enc (bitAt 8 f) N)).toList == s.toList) = true ∧ e = .returned (.tuple #[.slice (some ⟨w.heap.size, 0, none⟩) Q Q, .int .i64 0]) ∧ w'.rowIs w.heap.size 5 Q (fun j => .int .u8 (f j))) ∨
       (m = s.size ∧ ((strOfNums (enc (bitAt 8 f) N)).toList == s.toList) = false ∧ e = .returned (.tuple #[.slice none 0 0, .int .i64 10]))) := by
  have hmk := run_make_row' (P := Tryd.prog) 22 5 (.int .u8 0) 1 Tryd.underlying22 Tryd.info5 rfl .i64 .i64 Q (by omega) (by omega)
  have hQe : ((s.size : Int) * 5) / 8 = (Q : Int) := by omega
  have hhb : ∀ k, 0 ≤ h k ∧ h k ≤ 1 := by rw [hh]; exact bitAt_bd 5 _
  have hhv : ∀ k j, j < 5 → h (5 * k + j) = (vs k : Int) / 2 ^ (4 - j) % 2 := by rw [hh]; exact fun k j hj => bitAt_in 5 _ k j hj
  clear hh
  have HF : Hid (∀ j, f j = _) := hf
  clear hf
  go_enter Tryd.func42, Tryd.ntmps42
  go_wp2
  clear hmk hQe
  go_loopw [5] (fun i wr => ∃ k : Nat, k ≤ m ∧ i = .int .i64 k ∧ Below w.heap.size w wr ∧ wr.heap.size = w.heap.size + 1 ∧ wr.rowIs w.heap.size 5 Q (fun j => .int .u8 (part h (5 * k) j))) (fun i _ => s.size - (intOf i).toNat)
  case atStart =>
    exact ⟨0, Nat.zero_le _, rfl, (Below.refl _ _).alloc (Nat.le_refl _) _, by simp, (World.rowIs_made w _ Q 5).congr (fun j hj => by rw [part_zero])⟩
  case round =>
    obtain ⟨k, hk, rfl, hb, hsz, hrow⟩ := hrel
    by_cases hks : k < s.size
    · obtain ⟨c, hc⟩ : ∃ c : Int, (s[k].toNat : Int) = c := ⟨_, rfl⟩
      by_cases hlt : k < m
      · have HV := refSign_yes (vs k) c wr (h32 k) ((hvs k hks hlt).trans hc)
        have h32k := h32 k
        have hhk := hhv k
        generalize vs k = v at HV h32k hhk
        clear hvs hno h32 hhv
        go_wp2_with fail
        refine HV.mono ?_
        rintro e w1 ⟨rfl, hw1⟩
        subst hw1
        clear HV hc
        have hv0 : (0 : Int) ≤ (v : Int) := by omega
        go_wp2
        go_loopw [7] (fun i wr => ∃ j : Nat, j ≤ 5 ∧ i = .int .i64 j ∧ Below w.heap.size w wr ∧ wr.heap.size = w.heap.size + 1 ∧ wr.rowIs w.heap.size 5 Q (fun x => .int .u8 (part h (5 * k + j) x))) (fun i _ => 5 - (intOf i).toNat)
        case atStart => exact ⟨0, Nat.zero_le _, rfl, hb, hsz, hrow⟩
        case round =>
          clear hb hsz hrow
          obtain ⟨j, hj, rfl, hb, hsz, hrow⟩ := hrel
          by_cases hjl : j < 5
          · have hbit : Hid (h (5 * k + j) = (v : Int) / 2 ^ (4 - j) % 2) := hhk j hjl
            have hst : Hid (∀ x, part h (5 * k + j + 1) x = _) := part_step h (5 * k + j)
            have hpb : Hid (∀ x, 0 ≤ part h (5 * k + j) x ∧ _) := part_bd h hhb (5 * k + j)
            have hpb' : Hid (∀ x, 0 ≤ part h (5 * k + j + 1) x ∧ _) := part_bd h hhb (5 * k + j + 1)
            clear hhk hhb
            by_cases hin : (5 * k + j) / 8 < Q
            · obtain ⟨y, hy⟩ : ∃ y, (v : Int) / 2 ^ (4 - j) = y := ⟨_, rfl⟩
              have hy0 : 0 ≤ y := by rw [← hy]; exact Int.ediv_nonneg hv0 (Int.le_of_lt (two_pow_pos _))
              rw [hy] at hbit
              by_cases hone : y % 2 = 1
              · have hcl := hrow.cell hin
                have hfz := hrow.frozen ((5 * k + j) / 8)
                have hst1 := hst.out ((5 * k + j) / 8)
                rw [if_pos rfl, hbit.out, hone, Int.one_mul] at hst1
                have HV : Hid ((part h (5 * k + j) ((5 * k + j) / 8) + 2 ^ (7 - (5 * k + j) % 8)) % 256 = part h (5 * k + j + 1) ((5 * k + j) / 8)) := by
                  have h2 := hpb'.out ((5 * k + j) / 8)
                  show _ % 256 = _
                  rw [← hst1]
                  exact Int.emod_eq_of_lt h2.1 h2.2
                clear hst1
                have HR := hrow.set ((5 * k + j) / 8) (.int .u8 ((part h (5 * k + j) ((5 * k + j) / 8) + 2 ^ (7 - (5 * k + j) % 8)) % 256))
                go_wp2
                go_roundw
                case rel =>
                  refine ⟨j + 1, by omega, by go_num, hb.setCell (Nat.le_refl _) _, by simpa using hsz, HR.congr (fun x _ => ?_)⟩
                  rw [show 5 * k + (j + 1) = 5 * k + j + 1 by omega]
                  by_cases e : x = (5 * k + j) / 8
                  · rw [if_pos e, e, HV.out]
                  · have e2 := hst.out x
                    rw [if_neg (fun h => e h.symm), Int.add_zero] at e2
                    rw [if_neg e, e2]
                case measure => simp [intOf]; omega
              · have hzero : y % 2 = 0 := by omega
                go_wp2
                go_roundw
                case rel =>
                  refine ⟨j + 1, by omega, by go_num, hb, hsz, hrow.congr (fun x _ => ?_)⟩
                  have e := hst.out x
                  rw [hbit.out, hzero] at e
                  rw [show 5 * k + (j + 1) = 5 * k + j + 1 by omega, e]
                  simp
                case measure => simp [intOf]; omega
            · go_wp2
              go_roundw
              case rel =>
                refine ⟨j + 1, by omega, by go_num, hb, hsz, hrow.congr (fun x hx => ?_)⟩
                have e := hst.out x
                rw [if_neg (by omega), Int.add_zero] at e
                rw [show 5 * k + (j + 1) = 5 * k + j + 1 by omega, e]
              case measure => simp [intOf]; omega
          · obtain rfl : j = 5 := by omega
            go_wp2
            go_roundw
            case rel => exact ⟨k + 1, by omega, by go_num, hb, hsz, hrow⟩
            case measure => simp [intOf]; omega
      · obtain rfl : k = m := by omega
        have HV := refSign_no c wr (fun j hj => by rw [← hc]; exact hno hks j hj)
        clear hvs hno
        go_wp2_with fail
        refine HV.mono ?_
        rintro e w1 ⟨rfl, hw1⟩
        subst hw1
        clear HV hc
        go_wp2
        go_ret2
        exact ⟨hb, .inl ⟨hks, rfl⟩⟩
    · obtain rfl : k = m := by omega
      obtain ⟨n, hkn⟩ : ∃ n, n = s.size := ⟨_, rfl⟩
      have hke : k = s.size := by omega
      have hfr : ∀ j, j < Q → f j = part h (5 * k) j := fun j hj => by
        rw [HF.out j, if_pos hj, part_full h (5 * k) j (by omega)]
      have hrow' := hrow.congr (g := fun j => .int .u8 (f j)) (fun j hj => by rw [hfr j hj])
      have HE := refEncode_core (some ⟨w.heap.size, 0, none⟩) w.heap.size 0 Q Q N f wr (by omega) hN1 hN2 (fun _ => rfl) (fun i hi => by rw [Nat.zero_add]; exact hrow'.cell hi)
        (fun i => by
          rw [HF.out i]
          split
          · have := val_bd h hhb (8 * i) 8; omega
          · decide)
        (fun i hi => by rw [HF.out i, if_neg (by omega)])
      clear hrow hfr hvs hno h32 hhv hhb hkn
      go_wp2_with fail
      refine HE.mono ?_
      rintro e w2 ⟨rfl, hb2⟩
      clear HE
      have hbb : Below w.heap.size w w2 := hb.trans (hb2.mono (by omega))
      have hrow2 := hrow'.of_block (w' := w2) (hb2.block _ (by omega))
      clear hb hb2 hrow' hsz
      have HK : Hid (k = s.size) := hke
      clear hke
      cases hsame : ((strOfNums (enc (bitAt 8 f) N)).toList == s.toList) with
      | true =>
        go_wp2
        go_ret2
        exact ⟨hbb, .inr (.inl ⟨HK.out, hsame, rfl, hrow2⟩)⟩
      | false =>
        go_wp2
        go_ret2
        exact ⟨hbb, .inr (.inr ⟨HK.out, hsame, rfl⟩)⟩
end Go.Proofs.YtpkbfljoakodoaaDoor.S2
