/- The walks of the document's own bit and Encode. -/
import Derived.Test.YtppgidmeeaodkaaGreatDoorS2Decode
namespace Go.Proofs.YtppgidmeeaodkaaGreatDoor.S2
set_option maxRecDepth 20000
open Go.RowKit Math

set_option maxHeartbeats 400000 in
theorem refBit_any (a : Option Addr) (b off len cap k : Nat) (f : Nat → Int) (w : World) (hlen : len ≤ 281474976710656) (hk : k ≤ 9223372036854775807)
    (ha : 0 < len → a = some ⟨b, off, none⟩) (hcell : ∀ i, i < len → w.cell? ⟨b, off + i, none⟩ = some (.int .u8 (f i))) (hf : ∀ i, 0 ≤ f i ∧ f i < 256) (hf0 : ∀ i, len ≤ i → f i = 0) :
    Calls Tryz.prog 101 #[.slice a len cap, .int .i64 k] w fun e w' => e = .returned (.int .i64 (bitAt 8 f k)) ∧ w' = w := by
  by_cases h : k / 8 < len
  · obtain rfl := ha (by omega)
    have hc := hcell (k / 8) h
    have hfk := hf (k / 8)
    obtain ⟨y, hy⟩ : ∃ y, f (k / 8) / 2 ^ (7 - k % 8) = y := ⟨_, rfl⟩
    have hy0 : 0 ≤ y := by rw [← hy]; exact Int.ediv_nonneg hfk.1 (Int.le_of_lt (two_pow_pos _))
    have hy1 : y < 256 := by rw [← hy]; exact Int.lt_of_le_of_lt (Int.ediv_le_self _ hfk.1) hfk.2
    have e : bitAt 8 f k = y % 2 := by unfold bitAt; rw [← hy]
    rw [e]
    clear e
    go_enter Tryz.func101, Tryz.ntmps101
    go_wp2
    go_ret
    exact ⟨rfl, rfl⟩
  · have e : bitAt 8 f k = 0 := by unfold bitAt; rw [hf0 _ (by omega)]; simp
    rw [e]
    clear e
    go_enter Tryz.func101, Tryz.ntmps101
    go_wp2
    go_ret
    exact ⟨rfl, rfl⟩

theorem enc_succ (g : Nat → Int) (q : Nat) : enc g (q + 1) = enc g q ++ [sg (val g (5 * q) 5).toNat] := by
  simp [enc, List.range_succ]

set_option maxHeartbeats 1000000 in
theorem refEncode_core (a : Option Addr) (b off len cap N : Nat) (f : Nat → Int) (w : World) (hlen : len ≤ 140737488351232) (hN1 : 5 * N ≤ 8 * len + 4) (hN2 : 8 * len ≤ 5 * N)
    (ha : 0 < len → a = some ⟨b, off, none⟩) (hcell : ∀ i, i < len → w.cell? ⟨b, off + i, none⟩ = some (.int .u8 (f i))) (hf : ∀ i, 0 ≤ f i ∧ f i < 256) (hf0 : ∀ i, len ≤ i → f i = 0) :
    Calls Tryz.prog 50 #[.slice a len cap] w fun e w' => e = .returned (.string (strOfNums (enc (bitAt 8 f) N))) ∧ Below w.heap.size w w' := by
  obtain ⟨i0, hi, hz0, hz1, hz2⟩ := info_parts Tryz.info5
  have hg := bitAt_bd 8 f
  have HB : Hid (∀ (wr : World) (k : Nat), k ≤ 9223372036854775807 → Below w.heap.size w wr → Calls Tryz.prog 101 #[.slice a len cap, .int .i64 k] wr fun e w' => e = .returned (.int .i64 (bitAt 8 f k)) ∧ w' = wr) :=
    fun wr k hk hb => refBit_any a b off len cap k f wr (by omega) hk ha (fun i hi => by
      rw [hb.cell (p := ⟨b, off + i, none⟩) (World.block_lt_of_cell? _ _ (hcell i hi))]; exact hcell i hi) hf hf0
  clear hcell ha hf hf0
  go_enter Tryz.func50, Tryz.ntmps50
  go_wp2
  go_loopw [3, 4] (fun v k wr => ∃ q : Nat, q ≤ N ∧ k = .int .i64 (5 * (q : Int)) ∧ wr.ownsRow w.heap.size 5 1 v q ((enc (bitAt 8 f) q).map (Value.int .u8)) ∧ Below w.heap.size w wr) (fun _ k _ => 5 * N - (intOf k).toNat)
  case atStart => exact ⟨0, Nat.zero_le _, rfl, World.ownsRow_nil _ _ _ _, Below.refl _ _⟩
  case round =>
    obtain ⟨q, hq, rfl, hown, hb⟩ := hrel
    by_cases hlt : q < N
    · have h58 : 5 * (q : Int) < 8 * (len : Int) := by omega
      go_wp2
      go_loop [5, 6] (fun v i => ∃ j : Nat, j ≤ 5 ∧ i = .int .i64 j ∧ ∃ x : Nat, v = .int .i64 x ∧ x < 128 ∧ Hid (val (bitAt 8 f) (5 * q) j = x)) (fun _ i => 5 - (intOf i).toNat)
      case atStart => exact ⟨0, Nat.zero_le _, rfl, 0, rfl, by decide, rfl⟩
      case round =>
        obtain ⟨j, hj, rfl, x, rfl, hx1, hx⟩ := hrel
        by_cases hjl : j < 5
        · have hbit := hg (5 * q + j)
          have hqj : 5 * (q : Int) + (j : Int) = ((5 * q + j : Nat) : Int) := by omega
          obtain ⟨c, hc⟩ : ∃ c : Nat, bitAt 8 f (5 * q + j) = c := ⟨(bitAt 8 f (5 * q + j)).toNat, by omega⟩
          have hc1 : c ≤ 1 := by omega
          have HC := HB.out wr (5 * q + j) (by omega) hb
          rw [hc, ← hqj] at HC
          clear hg hbit hown hqj
          go_wp2_with fail
          refine HC.mono ?_
          rintro e w1 ⟨rfl, hw1⟩
          subst hw1
          clear HC
          have HE : Hid (val (bitAt 8 f) (5 * q) (j + 1) = ((2 * x + c : Nat) : Int)) := by
            show val (bitAt 8 f) (5 * q) (j + 1) = _
            simp only [val]
            rw [hx.out, hc]; omega
          have hxb : 2 * x + c < 128 := by
            have h1 := val_bd (bitAt 8 f) (bitAt_bd 8 f) (5 * q) (j + 1)
            have h2 : (2 : Int) ^ (j + 1) ≤ 32 := by
              have h3 : 2 ^ (j + 1) ≤ 32 := Nat.pow_le_pow_right (n := 2) (by decide) (show j + 1 ≤ 5 by omega)
              have h4 : ((2 ^ (j + 1) : Nat) : Int) = (2 : Int) ^ (j + 1) := by rw [Int.natCast_pow]; rfl
              omega
            have h5 := HE.out
            omega
          clear hc
          go_wp2
          go_round
          case rel => exact ⟨j + 1, by omega, by go_num, 2 * x + c, by go_num, hxb, HE⟩
          case measure => simp [intOf]; omega
        · obtain rfl : j = 5 := by omega
          have hx32 : x < 32 := by
            have h1 := val_bd (bitAt 8 f) hg (5 * q) 5
            have h2 := hx.out
            omega
          have hidx := str_index x hx32
          have hsz := hb.size
          go_wp2_with (at_builtin; refine wpList_append_own_wide _ rfl _ _ 36 rfl w.heap.size 5 i0 (.int .u8 0) 1 1 Tryz.underlying36 hi hz0 hz1 hz2 rfl (by decide) _ _ _ rfl (hown.alloc _) ⟨wr.heap.size, 0, none⟩ 1 1 [.int .u8 (sg x)] rfl rfl ?c1 ?c2 ?c3 ?c4 ?c5 ?_)
          case c2 => rfl
          case c3 => unfold maxLen; omega
          case c4 => omega
          case c5 => omega
          intro v' w2 hown' hgrow _
          have hb2 : Below w.heap.size w w2 := by
            refine (hb.alloc hsz _).grown hgrow (by simp; omega) (fun r hr => ?_)
            obtain ⟨_, ⟨rfl, _⟩ | ⟨g', cap, cur, rfl, hle, _⟩⟩ := hown
            · cases hr
            · simp [Value.ownBlock] at hr; omega
          have hown2 : w2.ownsRow w.heap.size 5 1 v' (q + 1) ((enc (bitAt 8 f) (q + 1)).map (Value.int .u8)) := by
            rw [enc_succ, hx.out, Int.toNat_natCast, List.map_append]; exact hown'
          clear hown hb hgrow hown' hidx
          go_wp2
          go_roundw
          case rel => exact ⟨q + 1, by omega, by go_num, hown2, hb2⟩
          case measure => simp [intOf]; omega
    · obtain rfl : q = N := by omega
      have hcv := conv_own _ _ _ _ _ hown
      go_wp2
      go_ret
      exact ⟨rfl, hb⟩
end Go.Proofs.YtppgidmeeaodkaaGreatDoor.S2
