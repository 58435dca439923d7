/- The walk of the document's own Decode. The plain facts on signs: what Decode's two ends mean, that signs are read back, and that their order is the bytes'. Signs of equally many bytes are the same just where the bytes are; signs are read as the bytes that they tell. The walk of the document's own Parse; and Parse beside it, whatever the text. -/
import Derived.Test.YthidlckipiamkaaDoorXB
import Derived.Test.YthidlckipiamkaaDoorXA
namespace Go.Proofs.YthidlckipiamkaaDoor.S2
set_option maxRecDepth 20000
open Go.RowKit Math

/-- The first m bits alone. -/
def first (h : Nat → Int) (m : Nat) : Nat → Int := fun p => if p < m then h p else 0
/-- The byte that the first m bits make at the place j. -/
def part (h : Nat → Int) (m j : Nat) : Int := val (first h m) (8 * j) 8

theorem first_bd (h : Nat → Int) (hh : ∀ k, 0 ≤ h k ∧ h k ≤ 1) (m : Nat) : ∀ k, 0 ≤ first h m k ∧ first h m k ≤ 1 := by
  intro k; unfold first; split
  · exact hh k
  · decide

theorem val_point (g g' : Nat → Int) (p : Nat) (c : Int) (hp : g' p = g p + c) (ho : ∀ i, i ≠ p → g' i = g i) (k l : Nat) :
    val g' k l = val g k l + if k ≤ p ∧ p < k + l then c * 2 ^ (k + l - 1 - p) else 0 := by
  induction l with
  | zero => rw [if_neg (by omega)]; simp [val]
  | succ l ih =>
    simp only [val]
    rw [ih]
    by_cases h1 : k ≤ p ∧ p < k + l
    · rw [if_pos h1, if_pos (by omega), ho (k + l) (by omega), show k + (l + 1) - 1 - p = (k + l - 1 - p) + 1 by omega, Int.pow_succ, Int.add_mul, ← Int.mul_assoc]
      omega
    · rw [if_neg h1]
      by_cases h2 : p = k + l
      · subst h2
        rw [if_pos (by omega), hp, show k + (l + 1) - 1 - (k + l) = 0 by omega]
        simp; omega
      · rw [if_neg (by omega), ho (k + l) (by omega)]; omega

theorem part_step (h : Nat → Int) (m j : Nat) : part h (m + 1) j = part h m j + if m / 8 = j then h m * 2 ^ (7 - m % 8) else 0 := by
  unfold part
  rw [val_point (first h m) (first h (m + 1)) m (h m) (by simp [first]) (fun i hi => by
    unfold first
    by_cases e : i < m
    · rw [if_pos e, if_pos (by omega)]
    · rw [if_neg e, if_neg (by omega)])]
  congr 1
  by_cases e : m / 8 = j
  · rw [if_pos e, if_pos (by omega), show 8 * j + 8 - 1 - m = 7 - m % 8 by omega]
  · rw [if_neg e, if_neg (by omega)]

theorem part_bd (h : Nat → Int) (hh : ∀ k, 0 ≤ h k ∧ h k ≤ 1) (m j : Nat) : 0 ≤ part h m j ∧ part h m j < 256 := by
  have := val_bd (first h m) (first_bd h hh m) (8 * j) 8
  unfold part; omega

theorem part_full (h : Nat → Int) (m j : Nat) (hm : 8 * j + 8 ≤ m) : part h m j = val h (8 * j) 8 :=
  val_congr _ _ _ _ (fun i hi => by unfold first; rw [if_pos (by omega)])

theorem part_zero (h : Nat → Int) (j : Nat) : part h 0 j = 0 := val_zero _ _ _ (fun i _ => by simp [first])

set_option maxHeartbeats 1000000 in
theorem refDecode_core (s : ByteArray) (vs : Nat → Nat) (m Q : Nat) (w : World) (hn : s.size ≤ 140737488351232) (hm : m ≤ s.size) (hQ1 : 8 * Q ≤ 5 * s.size) (hQ2 : 5 * s.size < 8 * Q + 8)
    (hvs : ∀ k, (h : k < s.size) → k < m → sg (vs k) = (s[k].toNat : Int)) (h32 : ∀ k, vs k < 32) (hno : (h : m < s.size) → ∀ k, k < 32 → sg k ≠ (s[m].toNat : Int))
    (h : Nat → Int) (hh : h = bitAt 5 (fun i => (vs i : Int))) (f : Nat → Int) (hf : ∀ j, f j = if j < Q then val h (8 * j) 8 else 0) (N : Nat) (hN1 : 5 * N ≤ 8 * Q + 4) (hN2 : 8 * Q ≤ 5 * N) :
    Calls Tryd.prog 36 #[.string s] w fun e w' => Below w.heap.size w w' ∧
      ((m < s.size ∧ e = .returned (.tuple #[.slice none 0 0, .int .i64 10])) ∨
       (m = s.size ∧ ((strOfNums (enc (bitAt 8 f) N)).toList == s.toList) = true ∧ e = .returned (.tuple #[.slice (some ⟨w.heap.size, 0, none⟩) Q Q, .int .i64 0]) ∧ w'.rowIs w.heap.size 5 Q (fun j => .int .u8 (f j))) ∨
       (m = s.size ∧ ((strOfNums (enc (bitAt 8 f) N)).toList == s.toList) = false ∧ e = .returned (.tuple #[.slice none 0 0, .int .i64 10]))) := by
  have hmk := run_make_row' (P := Tryd.prog) 38 5 (.int .u8 0) 1 Tryd.underlying38 Tryd.info5 rfl .i64 .i64 Q (by omega) (by omega)
  have hQe : ((s.size : Int) * 5) / 8 = (Q : Int) := by omega
  have hhb : ∀ k, 0 ≤ h k ∧ h k ≤ 1 := by rw [hh]; exact bitAt_bd 5 _
  have hhv : ∀ k j, j < 5 → h (5 * k + j) = (vs k : Int) / 2 ^ (4 - j) % 2 := by rw [hh]; exact fun k j hj => bitAt_in 5 _ k j hj
  clear hh
  have HF : Hid (∀ j, f j = _) := hf
  clear hf
  go_enter Tryd.func36, Tryd.ntmps36
  go_wp2
  clear hmk hQe
  go_loopw [5] (fun i wr => ∃ k : Nat, k ≤ m ∧ i = .int .i64 k ∧ Below w.heap.size w wr ∧ wr.heap.size = w.heap.size + 1 ∧ wr.rowIs w.heap.size 5 Q (fun j => .int .u8 (part h (5 * k) j))) (fun i _ => s.size - (intOf i).toNat)
  case atStart =>
    exact ⟨0, Nat.zero_le _, rfl, (Below.refl _ _).alloc (Nat.le_refl _) _, by simp, (World.rowIs_made w _ Q 5).congr (fun j hj => by rw [part_zero])⟩
  case round =>
    obtain ⟨k, hk, rfl, hb, hsz, hrow⟩ := hrel
    by_cases hks : k < s.size
    · obtain ⟨c, hc⟩ : ∃ c : Int, (s[k].toNat : Int) = c := ⟨_, rfl⟩
      by_cases hlt : k < m
      · have HV := refSign_yes (vs k) c wr (h32 k) ((hvs k hks hlt).trans hc)
        have h32k := h32 k
        have hhk := hhv k
        generalize vs k = v at HV h32k hhk
        clear hvs hno h32 hhv
        go_wp2_with fail
        refine HV.mono ?_
        rintro e w1 ⟨rfl, hw1⟩
        subst hw1
        clear HV hc
        have hv0 : (0 : Int) ≤ (v : Int) := by omega
        go_wp2
        go_loopw [7] (fun i wr => ∃ j : Nat, j ≤ 5 ∧ i = .int .i64 j ∧ Below w.heap.size w wr ∧ wr.heap.size = w.heap.size + 1 ∧ wr.rowIs w.heap.size 5 Q (fun x => .int .u8 (part h (5 * k + j) x))) (fun i _ => 5 - (intOf i).toNat)
        case atStart => exact ⟨0, Nat.zero_le _, rfl, hb, hsz, hrow⟩
        case round =>
          clear hb hsz hrow
          obtain ⟨j, hj, rfl, hb, hsz, hrow⟩ := hrel
          by_cases hjl : j < 5
          · have hbit : Hid (h (5 * k + j) = (v : Int) / 2 ^ (4 - j) % 2) := hhk j hjl
            have hst : Hid (∀ x, part h (5 * k + j + 1) x = _) := part_step h (5 * k + j)
            have hpb : Hid (∀ x, 0 ≤ part h (5 * k + j) x ∧ _) := part_bd h hhb (5 * k + j)
            have hpb' : Hid (∀ x, 0 ≤ part h (5 * k + j + 1) x ∧ _) := part_bd h hhb (5 * k + j + 1)
            clear hhk hhb
            by_cases hin : (5 * k + j) / 8 < Q
            · obtain ⟨y, hy⟩ : ∃ y, (v : Int) / 2 ^ (4 - j) = y := ⟨_, rfl⟩
              have hy0 : 0 ≤ y := by rw [← hy]; exact Int.ediv_nonneg hv0 (Int.le_of_lt (two_pow_pos _))
              rw [hy] at hbit
              by_cases hone : y % 2 = 1
              · have hcl := hrow.cell hin
                have hfz := hrow.frozen ((5 * k + j) / 8)
                have hst1 := hst.out ((5 * k + j) / 8)
                rw [if_pos rfl, hbit.out, hone, Int.one_mul] at hst1
                have HV : Hid ((part h (5 * k + j) ((5 * k + j) / 8) + 2 ^ (7 - (5 * k + j) % 8)) % 256 = part h (5 * k + j + 1) ((5 * k + j) / 8)) := by
                  have h2 := hpb'.out ((5 * k + j) / 8)
                  show _ % 256 = _
                  rw [← hst1]
                  exact Int.emod_eq_of_lt h2.1 h2.2
                clear hst1
                have HR := hrow.set ((5 * k + j) / 8) (.int .u8 ((part h (5 * k + j) ((5 * k + j) / 8) + 2 ^ (7 - (5 * k + j) % 8)) % 256))
                go_wp2
                go_roundw
                case rel =>
                  refine ⟨j + 1, by omega, by go_num, hb.setCell (Nat.le_refl _) _, by simpa using hsz, HR.congr (fun x _ => ?_)⟩
                  rw [show 5 * k + (j + 1) = 5 * k + j + 1 by omega]
                  by_cases e : x = (5 * k + j) / 8
                  · rw [if_pos e, e, HV.out]
                  · have e2 := hst.out x
                    rw [if_neg (fun h => e h.symm), Int.add_zero] at e2
                    rw [if_neg e, e2]
                case measure => simp [intOf]; omega
              · have hzero : y % 2 = 0 := by omega
                go_wp2
                go_roundw
                case rel =>
                  refine ⟨j + 1, by omega, by go_num, hb, hsz, hrow.congr (fun x _ => ?_)⟩
                  have e := hst.out x
                  rw [hbit.out, hzero] at e
                  rw [show 5 * k + (j + 1) = 5 * k + j + 1 by omega, e]
                  simp
                case measure => simp [intOf]; omega
            · go_wp2
              go_roundw
              case rel =>
                refine ⟨j + 1, by omega, by go_num, hb, hsz, hrow.congr (fun x hx => ?_)⟩
                have e := hst.out x
                rw [if_neg (by omega), Int.add_zero] at e
                rw [show 5 * k + (j + 1) = 5 * k + j + 1 by omega, e]
              case measure => simp [intOf]; omega
          · obtain rfl : j = 5 := by omega
            go_wp2
            go_roundw
            case rel => exact ⟨k + 1, by omega, by go_num, hb, hsz, hrow⟩
            case measure => simp [intOf]; omega
      · obtain rfl : k = m := by omega
        have HV := refSign_no c wr (fun j hj => by rw [← hc]; exact hno hks j hj)
        clear hvs hno
        go_wp2_with fail
        refine HV.mono ?_
        rintro e w1 ⟨rfl, hw1⟩
        subst hw1
        clear HV hc
        go_wp2
        go_ret2
        exact ⟨hb, .inl ⟨hks, rfl⟩⟩
    · obtain rfl : k = m := by omega
      obtain ⟨n, hkn⟩ : ∃ n, n = s.size := ⟨_, rfl⟩
      have hke : k = s.size := by omega
      have hfr : ∀ j, j < Q → f j = part h (5 * k) j := fun j hj => by
        rw [HF.out j, if_pos hj, part_full h (5 * k) j (by omega)]
      have hrow' := hrow.congr (g := fun j => .int .u8 (f j)) (fun j hj => by rw [hfr j hj])
      have HE := refEncode_core (some ⟨w.heap.size, 0, none⟩) w.heap.size 0 Q Q N f wr (by omega) hN1 hN2 (fun _ => rfl) (fun i hi => by rw [Nat.zero_add]; exact hrow'.cell hi)
        (fun i => by
          rw [HF.out i]
          split
          · have := val_bd h hhb (8 * i) 8; omega
          · decide)
        (fun i hi => by rw [HF.out i, if_neg (by omega)])
      clear hrow hfr hvs hno h32 hhv hhb hkn
      go_wp2_with fail
      refine HE.mono ?_
      rintro e w2 ⟨rfl, hb2⟩
      clear HE
      have hbb : Below w.heap.size w w2 := hb.trans (hb2.mono (by omega))
      have hrow2 := hrow'.of_block (w' := w2) (hb2.block _ (by omega))
      clear hb hb2 hrow' hsz
      have HK : Hid (k = s.size) := hke
      clear hke
      cases hsame : ((strOfNums (enc (bitAt 8 f) N)).toList == s.toList) with
      | true =>
        go_wp2
        go_ret2
        exact ⟨hbb, .inr (.inl ⟨HK.out, hsame, rfl, hrow2⟩)⟩
      | false =>
        go_wp2
        go_ret2
        exact ⟨hbb, .inr (.inr ⟨HK.out, hsame, rfl⟩)⟩
end Go.Proofs.YthidlckipiamkaaDoor.S2
namespace Go.Proofs.YthidlckipiamkaaDoor.S2
set_option maxRecDepth 20000
open Go.RowKit Math

theorem pow_pos' (k : Nat) : (0 : Int) < 2 ^ k := two_pow_pos k

/-- The bits of a group are the group. -/
theorem val_group_upto (fr : Nat) (f : Nat → Int) (i l : Nat) (hl : l ≤ fr) (h0 : 0 ≤ f i) (h1 : f i < 2 ^ fr) : val (bitAt fr f) (fr * i) l = f i / 2 ^ (fr - l) := by
  induction l with
  | zero => simp only [val, Nat.sub_zero]; exact (Int.ediv_eq_zero_of_lt h0 h1).symm
  | succ l ih =>
    simp only [val]
    rw [ih (by omega), bitAt_in fr f i l (by omega), show fr - 1 - l = fr - (l + 1) by omega]
    have e : f i / 2 ^ (fr - l) = f i / 2 ^ (fr - (l + 1)) / 2 := by
      rw [Int.ediv_ediv_of_nonneg (Int.le_of_lt (two_pow_pos _)), ← Int.pow_succ]
      congr 2; omega
    rw [e]; omega
theorem val_group (fr : Nat) (f : Nat → Int) (i : Nat) (h0 : 0 ≤ f i) (h1 : f i < 2 ^ fr) : val (bitAt fr f) (fr * i) fr = f i := by
  rw [val_group_upto fr f i fr (Nat.le_refl _) h0 h1]; simp

/-- The bits of a number of bits are these. -/
theorem val_bit (h : Nat → Int) (hh : ∀ k, 0 ≤ h k ∧ h k ≤ 1) (k l j : Nat) (hj : j < l) : val h k l / 2 ^ (l - 1 - j) % 2 = h (k + j) := by
  have e := val_add h k (j + 1) (l - 1 - j)
  rw [show j + 1 + (l - 1 - j) = l by omega] at e
  have hb := val_bd h hh (k + (j + 1)) (l - 1 - j)
  have hP := two_pow_pos (l - 1 - j)
  rw [e, Int.add_comm, Int.mul_comm, Int.add_mul_ediv_left _ _ (Int.ne_of_gt hP), Int.ediv_eq_zero_of_lt hb.1 hb.2]
  simp only [val]
  have := hh (k + j)
  omega

/-- Groups made of bits have these bits. -/
theorem bitAt_val (h : Nat → Int) (hh : ∀ k, 0 ≤ h k ∧ h k ≤ 1) (fr : Nat) (hfr : 0 < fr) (k : Nat) : bitAt fr (fun i => val h (fr * i) fr) k = h k := by
  have hk : fr * (k / fr) + k % fr = k := Nat.div_add_mod k fr
  have hm := Nat.mod_lt k hfr
  have e := bitAt_in fr (fun i => val h (fr * i) fr) (k / fr) (k % fr) hm
  rw [hk] at e
  rw [e, val_bit h hh _ _ _ hm, hk]

theorem sgU_inj (x y : Nat) (hx : x < 32) (hy : y < 32) (h : UInt8.ofNat (sg x).toNat = UInt8.ofNat (sg y).toNat) : x = y := by
  have bx := sg_lt x
  have bY := sg_lt y
  have h2 := congrArg UInt8.toNat h
  rw [UInt8.toNat_ofNat_of_lt' (by simp; omega), UInt8.toNat_ofNat_of_lt' (by simp; omega)] at h2
  exact sg_inj x y hx hy (by omega)

theorem strOfNums_toList (xs : List Int) : (strOfNums xs).toList = xs.map fun n => UInt8.ofNat n.toNat := by
  rw [ByteArray.toList_eq]; exact strOfNums_data xs

/-- A text whose bytes are signs, as their list. -/
theorem text_list (s : ByteArray) (vs : Nat → Nat) (hvs : ∀ k, (h : k < s.size) → sg (vs k) = (s[k].toNat : Int)) : s.toList = (List.range s.size).map fun j => UInt8.ofNat (sg (vs j)).toNat := by
  rw [ByteArray.toList_eq]
  apply List.ext_getElem
  · simp
  · intro i h1 h2
    have hi : i < s.size := by simpa using h1
    simp only [List.getElem_map, List.getElem_range]
    rw [hvs i hi, Int.toNat_natCast, UInt8.ofNat_toNat]
    rfl

/-- WHEN A TEXT OF SIGNS IS THAT OF ITS BYTES: less than a sign is over, and its bits are 0. -/
theorem same_iff (s : ByteArray) (vs : Nat → Nat) (hvs : ∀ k, (h : k < s.size) → sg (vs k) = (s[k].toNat : Int)) (h32 : ∀ k, vs k < 32) (h : Nat → Int) (hh : h = bitAt 5 (fun i => (vs i : Int)))
    (q l N : Nat) (hql : 5 * s.size = 8 * q + l) (hl : l < 8) (f : Nat → Int) (hf : ∀ j, f j = if j < q then val h (8 * j) 8 else 0) (hN1 : 5 * N ≤ 8 * q + 4) (hN2 : 8 * q ≤ 5 * N) :
    ((strOfNums (enc (bitAt 8 f) N)).toList == s.toList) = true ↔ (l < 5 ∧ val h (8 * q) l = 0) := by
  have hhb : ∀ k, 0 ≤ h k ∧ h k ≤ 1 := by rw [hh]; exact bitAt_bd 5 _
  have hgb := bitAt_bd 8 f
  have hv : ∀ j, val h (5 * j) 5 = vs j := fun j => by rw [hh]; exact val_group 5 (fun i => (vs i : Int)) j (by omega) (by have := h32 j; omega)
  have g1 : ∀ k, k < 8 * q → bitAt 8 f k = h k := fun k hk => by
    have e := bitAt_val h hhb 8 (by decide) k
    rw [← e]
    unfold bitAt
    rw [hf, if_pos (by omega)]
  have g2 : ∀ k, 8 * q ≤ k → bitAt 8 f k = 0 := fun k hk => by
    unfold bitAt; rw [hf, if_neg (by omega)]; simp
  rw [beq_iff_eq, strOfNums_toList, text_list s vs hvs]
  unfold enc
  rw [List.map_map]
  constructor
  · intro e
    have hlen := congrArg List.length e
    simp at hlen
    subst hlen
    have hl5 : l < 5 := by omega
    refine ⟨hl5, val_zero h (8 * q) l (fun i hi => ?_)⟩
    rw [List.map_inj_left] at e
    have hk : 8 * q + i < 5 * s.size := by omega
    have ej := e ((8 * q + i) / 5) (by rw [List.mem_range]; omega)
    have hb5 := val_bd (bitAt 8 f) hgb (5 * ((8 * q + i) / 5)) 5
    have ex := sgU_inj _ _ (by omega) (h32 _) ej
    have ev : val (bitAt 8 f) (5 * ((8 * q + i) / 5)) 5 = val h (5 * ((8 * q + i) / 5)) 5 := by rw [hv]; omega
    have b1 := val_bit (bitAt 8 f) hgb (5 * ((8 * q + i) / 5)) 5 ((8 * q + i) % 5) (by omega)
    have b2 := val_bit h hhb (5 * ((8 * q + i) / 5)) 5 ((8 * q + i) % 5) (by omega)
    rw [Nat.div_add_mod] at b1 b2
    rw [← b2, ← ev, b1, g2 _ (by omega)]
  · rintro ⟨hl5, hz⟩
    obtain rfl : N = s.size := by omega
    apply List.map_congr_left
    intro j hj
    rw [List.mem_range] at hj
    simp only [Function.comp]
    have e : val (bitAt 8 f) (5 * j) 5 = val h (5 * j) 5 := val_congr _ _ _ _ (fun i hi => by
      by_cases hk : 5 * j + i < 8 * q
      · exact g1 _ hk
      · have hz' := val_zero_inv h hhb (8 * q) l hz (5 * j + i - 8 * q) (by omega)
        rw [show 8 * q + (5 * j + i - 8 * q) = 5 * j + i by omega] at hz'
        rw [g2 _ (by omega), hz'])
    rw [e, hv, Int.toNat_natCast]
end Go.Proofs.YthidlckipiamkaaDoor.S2
namespace Go.Proofs.YthidlckipiamkaaDoor.S2
set_option maxRecDepth 20000
open Go.RowKit Math

theorem size_enc (g : Nat → Int) (N : Nat) : (strOfNums (enc g N)).size = N := by rw [strOfNums_size]; simp [enc]

theorem byte_of (f : Nat → Int) (j : Nat) (hf : ∀ i, 0 ≤ f i ∧ f i < 256) : val (bitAt 8 f) (8 * j) 8 = f j := val_group 8 f j (hf j).1 (by have := (hf j).2; omega)

theorem enc_same (f f' : Nat → Int) (L N : Nat) (hf : ∀ i, 0 ≤ f i ∧ f i < 256) (hf' : ∀ i, 0 ≤ f' i ∧ f' i < 256) (hf0 : ∀ i, L ≤ i → f i = 0) (hf0' : ∀ i, L ≤ i → f' i = 0) (hN : 8 * L ≤ 5 * N) :
    ((strOfNums (enc (bitAt 8 f) N)).toList == (strOfNums (enc (bitAt 8 f') N)).toList) = same L f f' := by
  rw [Bool.eq_iff_iff, beq_iff_eq, same_iff_all]
  constructor
  · intro e
    rw [strOfNums_toList, strOfNums_toList] at e
    unfold enc at e
    rw [List.map_map, List.map_map, List.map_inj_left] at e
    have hb : ∀ k, k < 5 * N → bitAt 8 f k = bitAt 8 f' k := fun k hk => by
      have ej := e (k / 5) (by rw [List.mem_range]; omega)
      have b1 := val_bd (bitAt 8 f) (bitAt_bd 8 f) (5 * (k / 5)) 5
      have b2 := val_bd (bitAt 8 f') (bitAt_bd 8 f') (5 * (k / 5)) 5
      have ex := sgU_inj _ _ (by omega) (by omega) ej
      have ev : val (bitAt 8 f) (5 * (k / 5)) 5 = val (bitAt 8 f') (5 * (k / 5)) 5 := by omega
      have c1 := val_bit (bitAt 8 f) (bitAt_bd 8 f) (5 * (k / 5)) 5 (k % 5) (by omega)
      have c2 := val_bit (bitAt 8 f') (bitAt_bd 8 f') (5 * (k / 5)) 5 (k % 5) (by omega)
      rw [Nat.div_add_mod] at c1 c2
      rw [← c1, ev, c2]
    intro j hj
    rw [← byte_of f j hf, ← byte_of f' j hf']
    exact val_congr _ _ _ _ (fun i hi => hb _ (by omega))
  · intro e
    have hff : ∀ i, f i = f' i := fun i => by
      by_cases hi : i < L
      · exact e i hi
      · rw [hf0 i (by omega), hf0' i (by omega)]
    rw [show f = f' from funext hff]

/-- The signs of bytes are read as these. -/
theorem decode_own (w : World) (f : Nat → Int) (L : Nat) (hT : Tab w) (hL : L ≤ 140737488351232) (hf : ∀ i, 0 ≤ f i ∧ f i < 256) (hf0 : ∀ i, L ≤ i → f i = 0) :
    Calls Tryd.prog 32 #[.string (strOfNums (enc (bitAt 8 f) ((8 * L + 4) / 5)))] w fun e w' => ∃ v, e = .returned (.tuple #[v, .int .i64 0]) ∧ Below w.heap.size w w' ∧ w'.ownsRow w.heap.size 5 1 v L (arr f L).toList := by
  have hgb := bitAt_bd 8 f
  obtain ⟨vs, hvs⟩ : ∃ vs : Nat → Nat, ∀ j, val (bitAt 8 f) (5 * j) 5 = vs j := ⟨fun j => (val (bitAt 8 f) (5 * j) 5).toNat, fun j => by have := val_bd (bitAt 8 f) hgb (5 * j) 5; exact (Int.toNat_of_nonneg this.1).symm⟩
  have h32 : ∀ k, vs k < 32 := fun k => by have := val_bd (bitAt 8 f) hgb (5 * k) 5; have := hvs k; omega
  have hg : bitAt 5 (fun i => (vs i : Int)) = bitAt 8 f := by
    funext k
    have e := bitAt_val (bitAt 8 f) hgb 5 (by decide) k
    rw [← e]
    congr 1
    funext i
    exact (hvs i).symm
  have hN := size_enc (bitAt 8 f) ((8 * L + 4) / 5)
  refine (decode_any (strOfNums (enc (bitAt 8 f) ((8 * L + 4) / 5))) vs w hT (by rw [hN]; omega) (fun k hk => ?_) h32).mono ?_
  · have hk' : k < (8 * L + 4) / 5 := by omega
    have hb := sg_lt (vs k)
    have e : (strOfNums (enc (bitAt 8 f) ((8 * L + 4) / 5)))[k] = UInt8.ofNat (sg (vs k)).toNat := by
      show (strOfNums (enc (bitAt 8 f) ((8 * L + 4) / 5))).data[k] = _
      simp [strOfNums, enc, hvs]
    rw [e, UInt8.toNat_ofNat_of_lt' (by simp; omega)]
    omega
  · rintro e w' ⟨q, l, hql, hl, hb, h⟩
    rw [hN] at hql
    rw [hg] at h
    obtain rfl : q = L := by omega
    rcases h with ⟨_, _, v, he, hown⟩ | ⟨hno, _⟩
    · refine ⟨v, he, hb, ?_⟩
      have hr : row (bitAt 8 f) 8 q = (arr f q).toList := by
        simp only [row, arr]
        apply List.map_congr_left
        intro j _
        rw [byte_of f j hf]
      rw [← hr]
      exact hown
    · exact absurd ⟨by omega, val_zero _ _ _ (fun i _ => by unfold bitAt; rw [hf0 _ (by omega)]; simp)⟩ hno
end Go.Proofs.YthidlckipiamkaaDoor.S2
namespace Go.Proofs.YthidlckipiamkaaDoor.S2
set_option maxRecDepth 20000
open Go.RowKit Math

theorem results15 : Tryd.f24.results = #[.cell 2 51, .tmp 3] := by kernel_rfl

set_option maxHeartbeats 400000 in
theorem refParse_bad (s : ByteArray) (w : World)
    (HD : ∀ wr, Below w.heap.size w wr → Calls Tryd.prog 36 #[.string s] wr fun e w' => e = .returned (.tuple #[.slice none 0 0, .int .i64 10]) ∧ Below wr.heap.size wr w') :
    Calls Tryd.prog 24 #[.string s] w fun e w' => e = .returned (.tuple #[.agg (arr (fun _ => 0) 32), .int .i64 10]) ∧ Below w.heap.size w w' := by
  rw [← zeros32_arr]
  obtain ⟨Z, hZ⟩ : ∃ Z, Z = zeros32 := ⟨_, rfl⟩
  have hZs : Z.size = 32 := by rw [hZ]; rfl
  have hZo : Z.all (·.oneCell') = true := by rw [hZ]; exact zeros32_one
  rw [← hZ]
  have hb0 : Below w.heap.size w ((w.alloc (.cells Z 51)).alloc (.cells Z 51)) := ((Below.refl _ _).alloc (Nat.le_refl _) _).alloc (by simp) _
  have HD1 := HD _ hb0
  clear HD
  unfold zeros32 at hZ
  go_enter Tryd.func24, Tryd.ntmps24
  go_wp2_with fail
  rw [← hZ]
  refine HD1.mono ?_
  rintro e w1 ⟨rfl, hb1⟩
  clear HD1 hZ
  have hR : Row w1 w.heap.size Z 51 := ((Row.new w Z 51).alloc _).below hb1 (by simp; omega)
  have hD : Row w1 (w.heap.size + 1) Z 51 := by
    have h := Row.new (w.alloc (.cells Z 51)) Z 51
    exact Row.below (by simpa using h) hb1 (by simp)
  have hbb : Below w.heap.size w w1 := hb0.trans (hb1.mono hb0.size)
  have hZi : (Tryd.prog.info? 51).map (·.size) = some Z.size := by rw [hZs]; exact info23
  go_wp2_with (first | refine wpList_load_row rfl 51 _ rfl _ rfl 51 Z (0, 0) _ hD Tryd.underlying51 rfl hZi ?_ | refine wpList_store_row rfl 51 _ _ rfl w.heap.size Z rfl rfl 51 Z hR hZi rfl hZo ?_)
  refine bodyPost_ret (results_cell_tmp results15 _ _ w.heap.size 51 Z _ rfl hR.setRow Tryd.underlying51 rfl hZi) rfl ⟨rfl, below_setRow hbb (Nat.le_refl _) _⟩

set_option maxHeartbeats 400000 in
theorem refParse_long (s : ByteArray) (q : Nat) (w : World) (hq : q ≠ 32)
    (HD : ∀ wr, Below w.heap.size w wr → Calls Tryd.prog 36 #[.string s] wr fun e w' => ∃ a, e = .returned (.tuple #[.slice a q q, .int .i64 0]) ∧ Below wr.heap.size wr w') :
    Calls Tryd.prog 24 #[.string s] w fun e w' => e = .returned (.tuple #[.agg (arr (fun _ => 0) 32), .int .i64 10]) ∧ Below w.heap.size w w' := by
  rw [← zeros32_arr]
  obtain ⟨Z, hZ⟩ : ∃ Z, Z = zeros32 := ⟨_, rfl⟩
  have hZs : Z.size = 32 := by rw [hZ]; rfl
  have hZo : Z.all (·.oneCell') = true := by rw [hZ]; exact zeros32_one
  rw [← hZ]
  have hb0 : Below w.heap.size w ((w.alloc (.cells Z 51)).alloc (.cells Z 51)) := ((Below.refl _ _).alloc (Nat.le_refl _) _).alloc (by simp) _
  have HD1 := HD _ hb0
  clear HD
  unfold zeros32 at hZ
  go_enter Tryd.func24, Tryd.ntmps24
  go_wp2_with fail
  rw [← hZ]
  refine HD1.mono ?_
  rintro e w1 ⟨a, rfl, hb1⟩
  clear HD1 hZ
  have hR : Row w1 w.heap.size Z 51 := ((Row.new w Z 51).alloc _).below hb1 (by simp; omega)
  have hD : Row w1 (w.heap.size + 1) Z 51 := by
    have h := Row.new (w.alloc (.cells Z 51)) Z 51
    exact Row.below (by simpa using h) hb1 (by simp)
  have hbb : Below w.heap.size w w1 := hb0.trans (hb1.mono hb0.size)
  have hZi : (Tryd.prog.info? 51).map (·.size) = some Z.size := by rw [hZs]; exact info23
  go_wp2_with (first | refine wpList_load_row rfl 51 _ rfl _ rfl 51 Z (0, 0) _ hD Tryd.underlying51 rfl hZi ?_ | refine wpList_store_row rfl 51 _ _ rfl w.heap.size Z rfl rfl 51 Z hR hZi rfl hZo ?_)
  refine bodyPost_ret (results_cell_tmp results15 _ _ w.heap.size 51 Z _ rfl hR.setRow Tryd.underlying51 rfl hZi) rfl ⟨rfl, below_setRow hbb (Nat.le_refl _) _⟩

/-- The first k bytes of f, and zeros. -/
def upto (f : Nat → Int) (k : Nat) : Nat → Int := fun i => if i < k then f i else 0

set_option maxHeartbeats 400000 in
theorem refParse_ok (s : ByteArray) (f : Nat → Int) (w : World)
    (HD : ∀ wr, Below w.heap.size w wr → Calls Tryd.prog 36 #[.string s] wr fun e w' => e = .returned (.tuple #[.slice (some ⟨wr.heap.size, 0, none⟩) 32 32, .int .i64 0]) ∧ Below wr.heap.size wr w' ∧ w'.rowIs wr.heap.size 5 32 (fun j => .int .u8 (f j))) :
    Calls Tryd.prog 24 #[.string s] w fun e w' => e = .returned (.tuple #[.agg (arr f 32), .int .i64 0]) ∧ Below w.heap.size w w' := by
  obtain ⟨Z, hZ⟩ : ∃ Z, Z = zeros32 := ⟨_, rfl⟩
  have hZs : Z.size = 32 := by rw [hZ]; rfl
  have hZa : Z = arr (upto f 0) 32 := by rw [hZ, zeros32_arr]; exact arr_congr _ _ _ (fun i _ => by simp [upto])
  have hone := arr_one f 32
  have hAs := arr_size f 32
  have hA : Hid (arr (upto f 32) 32 = arr f 32) := arr_congr _ _ _ (fun i hi => by simp [upto, hi])
  generalize arr f 32 = A at *
  have hi : (Tryd.prog.info? 51).map (·.size) = some A.size := by rw [hAs]; exact info23
  have hb0 : Below w.heap.size w ((w.alloc (.cells Z 51)).alloc (.cells Z 51)) := ((Below.refl _ _).alloc (Nat.le_refl _) _).alloc (by simp) _
  have HD1 := HD _ hb0
  clear HD
  unfold zeros32 at hZ
  go_enter Tryd.func24, Tryd.ntmps24
  go_wp2_with fail
  rw [← hZ]
  refine HD1.mono ?_
  rintro e w1 ⟨rfl, hb1, hrow⟩
  clear HD1 hZ
  have hsz : ((w.alloc (.cells Z 51)).alloc (.cells Z 51)).heap.size = w.heap.size + 2 := by simp
  have hR : Row w1 w.heap.size Z 51 := ((Row.new w Z 51).alloc _).below hb1 (by simp; omega)
  have hD : Row w1 (w.heap.size + 1) (arr (upto f 0) 32) 51 := by
    have h := Row.new (w.alloc (.cells Z 51)) Z 51
    rw [← hZa]
    exact Row.below (by simpa using h) hb1 (by simp)
  have hbb : Below w.heap.size w w1 := hb0.trans (hb1.mono hb0.size)
  rw [hsz] at hrow ⊢
  clear hb0 hb1 hZa
  go_wp2
  go_loopw [7] (fun i wr => ∃ k : Nat, k ≤ 32 ∧ i = .int .i64 k ∧ Row wr w.heap.size Z 51 ∧ Row wr (w.heap.size + 1) (arr (upto f k) 32) 51 ∧ wr.rowIs (w.heap.size + 2) 5 32 (fun j => .int .u8 (f j)) ∧ Below w.heap.size w wr) (fun i _ => 32 - (intOf i).toNat)
  case atStart => exact ⟨0, Nat.zero_le _, rfl, hR, hD, hrow, hbb⟩
  case round =>
    clear hR hD hrow hbb
    obtain ⟨k, hk, rfl, hR, hD, hrow, hbb⟩ := hrel
    by_cases hlt : k < 32
    · have c0 := hrow.cell hlt
      have c1 := hD.cell k
      rw [arr_at _ _ _ hlt] at c1
      have z1 := hD.frozen k
      go_wp2
      go_roundw
      case rel =>
        refine ⟨k + 1, by omega, by go_num, hR.setCell_other (by omega) _, ?_, ?_, hbb.setCell (by simp) _⟩
        · have h := hD.setCell (i := k) (.int .u8 (f k))
          rw [arr_set (upto f k) (upto f (k + 1)) 32 k (f k) (fun i hi => by
            unfold upto
            by_cases e : i = k
            · rw [if_pos e, if_pos (by omega), e]
            · rw [if_neg e]
              by_cases h : i < k
              · rw [if_pos h, if_pos (by omega)]
              · rw [if_neg h, if_neg (by omega)])] at h
          exact h
        · exact hrow.of_block (heap_setCell_other _ _ _ _ (by simp))
      case measure => simp [intOf]; omega
    · obtain rfl : k = 32 := by omega
      rw [hA.out] at hD
      go_wp2_with (first | refine wpList_load_row rfl 51 _ rfl _ rfl 51 A (0, 0) _ hD Tryd.underlying51 rfl hi ?_ | refine wpList_store_row rfl 51 _ _ rfl w.heap.size A rfl rfl 51 Z hR hi (hZs.trans hAs.symm) hone ?_)
      refine bodyPost_ret (results_cell_tmp results15 _ _ w.heap.size 51 A _ rfl hR.setRow Tryd.underlying51 rfl hi) rfl ⟨rfl, below_setRow hbb (Nat.le_refl _) _⟩

/-- The first place where something does not hold, or none. -/
theorem first_bad (P : Nat → Prop) (n : Nat) : (∀ k, k < n → P k) ∨ ∃ m, m < n ∧ (∀ k, k < m → P k) ∧ ¬ P m := by
  induction n with
  | zero => exact .inl (fun k hk => absurd hk (by omega))
  | succ n ih =>
    rcases ih with h | ⟨m, h1, h2, h3⟩
    · by_cases hp : P n
      · exact .inl (fun k hk => by
          by_cases e : k = n
          · subst e; exact hp
          · exact h k (by omega))
      · exact .inr ⟨n, by omega, h, hp⟩
    · exact .inr ⟨m, by omega, h2, h3⟩

theorem choose_signs (s : ByteArray) (m : Nat) (h : ∀ k, k < m → ∃ v, v < 32 ∧ ∀ hk : k < s.size, sg v = (s[k].toNat : Int)) : ∃ vs : Nat → Nat, (∀ k, vs k < 32) ∧ ∀ k, (hk : k < s.size) → k < m → sg (vs k) = (s[k].toNat : Int) := by
  refine ⟨fun k => if hk : k < m then Classical.choose (h k hk) else 0, fun k => ?_, fun k hks hk => ?_⟩
  · by_cases hk : k < m
    · simp only [hk, dite_true]; exact (Classical.choose_spec (h k hk)).1
    · simp only [hk, dite_false]; decide
  · simp only [hk, dite_true]
    exact (Classical.choose_spec (h k hk)).2 hks

/-- Parse and the document's own answer alike, whatever the text. -/
theorem parse_pair (s : ByteArray) (w : World) (hT : Tab w) (hn : s.size ≤ 140737488351232) : ∃ (g : Nat → Int) (c : Int),
    (∀ wr, Below w.heap.size w wr → Calls Tryd.prog 21 #[.string s] wr fun e w' => e = .returned (.tuple #[.agg (arr g 32), .int .i64 c]) ∧ Below wr.heap.size wr w') ∧
    (∀ wr, Below w.heap.size w wr → Calls Tryd.prog 24 #[.string s] wr fun e w' => e = .returned (.tuple #[.agg (arr g 32), .int .i64 c]) ∧ Below wr.heap.size wr w') := by
  have hp := hT.pos
  have tab : ∀ {wr wx : World}, Below w.heap.size w wr → Below wr.heap.size wr wx → Tab wx := fun h1 h2 => hT.below (h1.trans (h2.mono h1.size)) hp
  obtain ⟨Q, l, hQ, hl⟩ : ∃ Q l, 5 * s.size = 8 * Q + l ∧ l < 8 := ⟨5 * s.size / 8, 5 * s.size % 8, by omega, by omega⟩
  obtain ⟨N, hN1, hN2⟩ : ∃ N, 5 * N ≤ 8 * Q + 4 ∧ 8 * Q ≤ 5 * N := ⟨(8 * Q + 4) / 5, by omega, by omega⟩
  rcases first_bad (fun k => ∃ v, v < 32 ∧ ∀ hk : k < s.size, sg v = (s[k].toNat : Int)) s.size with hall | ⟨m, hm, hbefore, hbad⟩
  · obtain ⟨vs, h32, hvs⟩ := choose_signs s s.size hall
    have hvs' : ∀ k, (hk : k < s.size) → sg (vs k) = (s[k].toNat : Int) := fun k hk => hvs k hk hk
    obtain ⟨h, hh⟩ : ∃ h, h = bitAt 5 (fun i => (vs i : Int)) := ⟨_, rfl⟩
    obtain ⟨f, hf⟩ : ∃ f : Nat → Int, ∀ j, f j = if j < Q then val h (8 * j) 8 else 0 := ⟨fun j => if j < Q then val h (8 * j) 8 else 0, fun _ => rfl⟩
    have hsame := same_iff s vs hvs' h32 h hh Q l N hQ hl f hf hN1 hN2
    have HR := fun (wr : World) => refDecode_core s vs s.size Q wr hn (Nat.le_refl _) (by omega) (by omega) (fun k hk _ => hvs' k hk) h32 (fun hc => absurd hc (by omega)) h hh f hf N hN1 hN2
    by_cases hok : l < 5 ∧ val h (8 * Q) l = 0
    · have hs1 := hsame.2 hok
      have hraw : row h 8 Q = (arr f Q).toList := by
        simp only [row, arr]
        apply List.map_congr_left
        intro j hj
        rw [List.mem_range] at hj
        simp [hf, hj]
      have D1 : ∀ {wr : World}, Below w.heap.size w wr → ∀ wx, Below wr.heap.size wr wx → Calls Tryd.prog 32 #[.string s] wx fun e w' => ∃ v, e = .returned (.tuple #[v, .int .i64 0]) ∧ Below wx.heap.size wx w' ∧ w'.ownsRow wx.heap.size 5 1 v Q (arr f Q).toList := fun hb wx hx => by
        refine (decode_any s vs wx (tab hb hx) (by omega) hvs' h32).mono ?_
        rintro e w' ⟨q', l', hq', hl', hb', h'⟩
        obtain rfl : q' = Q := by omega
        obtain rfl : l' = l := by omega
        rw [← hh] at h'
        rcases h' with ⟨_, _, v, he, hown⟩ | ⟨hno, _⟩
        · rw [hraw] at hown
          exact ⟨v, he, hb', hown⟩
        · exact absurd hok hno
      have D2 : ∀ wx : World, Calls Tryd.prog 36 #[.string s] wx fun e w' => e = .returned (.tuple #[.slice (some ⟨wx.heap.size, 0, none⟩) Q Q, .int .i64 0]) ∧ Below wx.heap.size wx w' ∧ w'.rowIs wx.heap.size 5 Q (fun j => .int .u8 (f j)) := fun wx => by
        refine (HR wx).mono ?_
        rintro e w' ⟨hb', h1 | ⟨_, _, he, hrow⟩ | ⟨_, hne, _⟩⟩
        · exact absurd h1.1 (by omega)
        · exact ⟨he, hb', hrow⟩
        · rw [hs1] at hne; cases hne
      by_cases hq : Q = 32
      · subst hq
        exact ⟨f, 0, fun wr hb => parse_ok s f wr (D1 hb), fun wr hb => refParse_ok s f wr (fun wx _ => D2 wx)⟩
      · exact ⟨fun _ => 0, 10, fun wr hb => parse_long s Q _ wr hq (by omega) (D1 hb), fun wr hb => refParse_long s Q wr hq (fun wx _ => (D2 wx).mono fun e w' ⟨h1, h2, _⟩ => ⟨_, h1, h2⟩)⟩
    · have hs1 : ((strOfNums (enc (bitAt 8 f) N)).toList == s.toList) = false := by
        cases hc : ((strOfNums (enc (bitAt 8 f) N)).toList == s.toList) with
        | true => exact absurd (hsame.1 hc) hok
        | false => rfl
      refine ⟨fun _ => 0, 10, fun wr hb => parse_bad s wr (fun wx hx => ?_), fun wr hb => refParse_bad s wr (fun wx hx => ?_)⟩
      · refine (decode_any s vs wx (tab hb hx) (by omega) hvs' h32).mono ?_
        rintro e w' ⟨q', l', hq', hl', hb', h'⟩
        obtain rfl : q' = Q := by omega
        obtain rfl : l' = l := by omega
        rw [← hh] at h'
        rcases h' with ⟨h1, h2, _⟩ | ⟨_, he⟩
        · exact absurd ⟨h1, h2⟩ hok
        · exact ⟨he, hb'⟩
      · refine (HR wx).mono ?_
        rintro e w' ⟨hb', h1 | ⟨_, he1, _⟩ | ⟨_, _, he⟩⟩
        · exact absurd h1.1 (by omega)
        · rw [hs1] at he1; cases he1
        · exact ⟨he, hb'⟩
  · obtain ⟨vs, h32, hvs⟩ := choose_signs s m hbefore
    have hno : ∀ k, k < 32 → sg k ≠ (s[m].toNat : Int) := fun k hk e => hbad ⟨k, hk, fun _ => e⟩
    refine ⟨fun _ => 0, 10, fun wr hb => parse_bad s wr (fun wx hx => ?_), fun wr hb => refParse_bad s wr (fun wx hx => ?_)⟩
    · exact decode_bad s vs m wx (tab hb hx) (by omega) hm (fun k hk hkm => ⟨h32 k, hvs k hk hkm⟩) hno
    · refine (refDecode_core s vs m Q wx hn (by omega) (by omega) (by omega) hvs h32 (fun _ => hno) _ rfl (fun j => if j < Q then val (bitAt 5 (fun i => (vs i : Int))) (8 * j) 8 else 0) (fun _ => rfl) N hN1 hN2).mono ?_
      rintro e w' ⟨hb', ⟨_, he⟩ | ⟨h1, _⟩ | ⟨h1, _⟩⟩
      · exact ⟨he, hb'⟩
      · exact absurd h1 (by omega)
      · exact absurd h1 (by omega)
end Go.Proofs.YthidlckipiamkaaDoor.S2
