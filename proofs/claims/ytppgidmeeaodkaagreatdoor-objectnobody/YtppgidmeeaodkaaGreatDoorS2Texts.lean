/- Signs of equally many bytes are the same just where the bytes are; signs are read as the bytes that they tell. -/
import Derived.Test.YtppgidmeeaodkaaGreatDoorS2Plain
import Derived.Test.YtppgidmeeaodkaaGreatDoorS2Same
namespace Go.Proofs.YtppgidmeeaodkaaGreatDoor.S2
set_option maxRecDepth 20000
open Go.RowKit Math

theorem size_enc (g : Nat → Int) (N : Nat) : (strOfNums (enc g N)).size = N := by rw [strOfNums_size]; simp [enc]

theorem byte_of (f : Nat → Int) (j : Nat) (hf : ∀ i, 0 ≤ f i ∧ f i < 256) : val (bitAt 8 f) (8 * j) 8 = f j := val_group 8 f j (hf j).1 (by have := (hf j).2; omega)

theorem enc_same (f f' : Nat → Int) (L N : Nat) (hf : ∀ i, 0 ≤ f i ∧ f i < 256) (hf' : ∀ i, 0 ≤ f' i ∧ f' i < 256) (hf0 : ∀ i, L ≤ i → f i = 0) (hf0' : ∀ i, L ≤ i → f' i = 0) (hN : 8 * L ≤ 5 * N) :
    ((strOfNums (enc (bitAt 8 f) N)).toList == (strOfNums (enc (bitAt 8 f') N)).toList) = same L f f' := by
  rw [Bool.eq_iff_iff, beq_iff_eq, same_iff_all]
  constructor
  · intro e
    rw [strOfNums_toList, strOfNums_toList] at e
    unfold enc at e
    rw [List.map_map, List.map_map, List.map_inj_left] at e
    have hb : ∀ k, k < 5 * N → bitAt 8 f k = bitAt 8 f' k := fun k hk => by
      have ej := e (k / 5) (by rw [List.mem_range]; omega)
      have b1 := val_bd (bitAt 8 f) (bitAt_bd 8 f) (5 * (k / 5)) 5
      have b2 := val_bd (bitAt 8 f') (bitAt_bd 8 f') (5 * (k / 5)) 5
      have ex := sgU_inj _ _ (by omega) (by omega) ej
      have ev : val (bitAt 8 f) (5 * (k / 5)) 5 = val (bitAt 8 f') (5 * (k / 5)) 5 := by omega
      have c1 := val_bit (bitAt 8 f) (bitAt_bd 8 f) (5 * (k / 5)) 5 (k % 5) (by omega)
      have c2 := val_bit (bitAt 8 f') (bitAt_bd 8 f') (5 * (k / 5)) 5 (k % 5) (by omega)
      rw [Nat.div_add_mod] at c1 c2
      rw [← c1, ev, c2]
    intro j hj
    rw [← byte_of f j hf, ← byte_of f' j hf']
    exact val_congr _ _ _ _ (fun i hi => hb _ (by omega))
  · intro e
    have hff : ∀ i, f i = f' i := fun i => by
      by_cases hi : i < L
      · exact e i hi
      · rw [hf0 i (by omega), hf0' i (by omega)]
    rw [show f = f' from funext hff]

/-- The signs of bytes are read as these. -/
theorem decode_own (w : World) (f : Nat → Int) (L : Nat) (hT : Tab w) (hL : L ≤ 140737488351232) (hf : ∀ i, 0 ≤ f i ∧ f i < 256) (hf0 : ∀ i, L ≤ i → f i = 0) :
    Calls Tryz.prog 230 #[.string (strOfNums (enc (bitAt 8 f) ((8 * L + 4) / 5)))] w fun e w' => ∃ v, e = .returned (.tuple #[v, .int .i64 0]) ∧ Below w.heap.size w w' ∧ w'.ownsRow w.heap.size 5 1 v L (arr f L).toList := by
  have hgb := bitAt_bd 8 f
  obtain ⟨vs, hvs⟩ : ∃ vs : Nat → Nat, ∀ j, val (bitAt 8 f) (5 * j) 5 = vs j := ⟨fun j => (val (bitAt 8 f) (5 * j) 5).toNat, fun j => by have := val_bd (bitAt 8 f) hgb (5 * j) 5; exact (Int.toNat_of_nonneg this.1).symm⟩
  have h32 : ∀ k, vs k < 32 := fun k => by have := val_bd (bitAt 8 f) hgb (5 * k) 5; have := hvs k; omega
  have hg : bitAt 5 (fun i => (vs i : Int)) = bitAt 8 f := by
    funext k
    have e := bitAt_val (bitAt 8 f) hgb 5 (by decide) k
    rw [← e]
    congr 1
    funext i
    exact (hvs i).symm
  have hN := size_enc (bitAt 8 f) ((8 * L + 4) / 5)
  refine (decode_any (strOfNums (enc (bitAt 8 f) ((8 * L + 4) / 5))) vs w hT (by rw [hN]; omega) (fun k hk => ?_) h32).mono ?_
  · have hk' : k < (8 * L + 4) / 5 := by omega
    have hb := sg_lt (vs k)
    have e : (strOfNums (enc (bitAt 8 f) ((8 * L + 4) / 5)))[k] = UInt8.ofNat (sg (vs k)).toNat := by
      show (strOfNums (enc (bitAt 8 f) ((8 * L + 4) / 5))).data[k] = _
      simp [strOfNums, enc, hvs]
    rw [e, UInt8.toNat_ofNat_of_lt' (by simp; omega)]
    omega
  · rintro e w' ⟨q, l, hql, hl, hb, h⟩
    rw [hN] at hql
    rw [hg] at h
    obtain rfl : q = L := by omega
    rcases h with ⟨_, _, v, he, hown⟩ | ⟨hno, _⟩
    · refine ⟨v, he, hb, ?_⟩
      have hr : row (bitAt 8 f) 8 q = (arr f q).toList := by
        simp only [row, arr]
        apply List.map_congr_left
        intro j _
        rw [byte_of f j hf]
      rw [← hr]
      exact hown
    · exact absurd ⟨by omega, val_zero _ _ _ (fun i _ => by unfold bitAt; rw [hf0 _ (by omega)]; simp)⟩ hno
end Go.Proofs.YtppgidmeeaodkaaGreatDoor.S2
