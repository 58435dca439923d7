/- The walk of bits.Encode: the bytes' bits as signs of five bits. -/
import Derived.Test.YtppgidmeeaodkaaGreatDoorS2Signs
import Derived.Laws.BytesArg
namespace Go.Proofs.YtppgidmeeaodkaaGreatDoor.S2
set_option maxRecDepth 20000
open Go.RowKit Math

/-- The signs' bytes of the first N groups of five bits. -/
def enc (g : Nat → Int) (N : Nat) : List Int := (List.range N).map fun j => sg (val g (5 * j) 5).toNat

/-- While the loop goes: the first k groups are signs already. -/
def rowS (g : Nat → Int) (N k : Nat) : List Value := (List.range N).map fun j => .int .u8 (if j < k then sg (val g (5 * j) 5).toNat else val g (5 * j) 5)

theorem rowS_zero (g : Nat → Int) (N : Nat) : rowS g N 0 = row g 5 N := by simp [rowS, row]
theorem rowS_full (g : Nat → Int) (N : Nat) : rowS g N N = (enc g N).map (Value.int .u8) := by
  simp only [rowS, enc, List.map_map]
  apply List.map_congr_left
  intro j hj
  rw [List.mem_range] at hj
  simp [hj]
theorem rowS_at (g : Nat → Int) (N k : Nat) (h : k < N) : (rowS g N k)[k]? = some (.int .u8 (val g (5 * k) 5)) := by
  simp [rowS, h]
theorem rowS_set (g : Nat → Int) (N k : Nat) (h : k < N) : (rowS g N k).set k (.int .u8 (sg (val g (5 * k) 5).toNat)) = rowS g N (k + 1) := by
  apply List.ext_getElem?
  intro j
  rw [List.getElem?_set]
  by_cases hj : j < N
  · by_cases e : k = j
    · subst e; simp [rowS, h]
    · rw [if_neg e]
      simp only [rowS, List.getElem?_map, List.getElem?_range hj, Option.map_some]
      by_cases h1 : j < k
      · rw [if_pos h1, if_pos (by omega)]
      · rw [if_neg h1, if_neg (by omega)]
  · rw [if_neg (by omega)]
    simp [rowS, Nat.not_lt.1 hj]

theorem conv_own (w : World) (B : Nat) (v : Value) (N : Nat) (xs : List Int) (h : w.ownsRow B 5 1 v N (xs.map (Value.int .u8))) :
    (convert 36 9 v).run Tryz.prog w = .ok (.string (strOfNums xs)) w := by
  have hl : xs.length = N := by simpa using h.1
  obtain ⟨_, ⟨rfl, rfl⟩ | ⟨g, cap, cur, rfl, _⟩⟩ := id h
  · have : xs = [] := List.length_eq_zero_iff.1 hl
    subst this
    exact run_convert_bytes_nil (P := Tryz.prog) w 36 5 Tryz.underlying36 Tryz.underlying5 0 0 9 Tryz.underlying9
  · refine run_convert_bytes_arg (P := Tryz.prog) w 36 5 Tryz.underlying36 Tryz.underlying5 g 0 N cap xs hl (fun i hi => ?_) 9 Tryz.underlying9
    rw [Nat.zero_add, h.cellAt i (by omega)]
    have hi' : i < xs.length := by omega
    simp [List.getD, hi']

theorem val5 (g : Nat → Int) (hg : ∀ k, 0 ≤ g k ∧ g k ≤ 1) (k : Nat) : ∃ x : Nat, val g k 5 = x ∧ x < 32 := by
  have h := val_bd g hg k 5
  exact ⟨(val g k 5).toNat, by omega, by omega⟩

set_option maxHeartbeats 1000000 in
theorem encode_core (a : Option Addr) (b off len cap N : Nat) (f : Nat → Int) (w : World) (hT : Tab w) (hlen : len ≤ 140737488351232) (hN1 : 5 * N ≤ 8 * len + 4) (hN2 : 8 * len ≤ 5 * N)
    (ha : 0 < len → a = some ⟨b, off, none⟩) (hcell : ∀ i, i < len → w.cell? ⟨b, off + i, none⟩ = some (.int .u8 (f i))) (hf : ∀ i, 0 ≤ f i ∧ f i < 256) (hf0 : ∀ i, len ≤ i → f i = 0) :
    Calls Tryz.prog 139 #[.slice a len cap] w fun e w' => e = .returned (.string (strOfNums (enc (bitAt 8 f) N))) ∧ Below w.heap.size w w' := by
  obtain ⟨i0, hi, hz0, hz1, hz2⟩ := info_parts Tryz.info5
  have hg := bitAt_bd 8 f
  have HR := regroup_any a b off len cap 8 5 f (bitAt 8 f) w (by decide) (by decide) (by decide) (by decide) (by omega) ha hcell hf hg (fun i j hj => bitAt_in 8 f i j hj) (fun q hq => by omega)
  go_enter Tryz.func139, Tryz.ntmps139
  go_wp2_with fail
  refine HR.mono ?_
  rintro e w1 ⟨v, q, l, rfl, hm, hl, hown, hb⟩
  clear HR hcell ha
  have hT1 : Tab w1 := hT.below hb hT.pos
  have hT0 := hT.pos
  by_cases h0 : l = 0
  · subst h0
    obtain rfl : q = N := by omega
    rw [← rowS_zero] at hown
    have hN' : q ≤ 281474976710656 := by omega
    clear hm hl hi hz0 hz1 hz2 hf hf0
    have hown0 := hown
    obtain ⟨_, ⟨hv, hq0⟩ | ⟨g', cap', cur, hv, hle, _⟩⟩ := hown0
    · subst hv
      subst hq0
      have hcv := conv_own w1 w.heap.size _ 0 (enc (bitAt 8 f) 0) (by rw [← rowS_full]; exact hown)
      go_wp2
      refine wp_loop_rounds 1 ?_
      rw [rounds_succ]
      go_wp2
      go_ret
      exact ⟨rfl, hb⟩
    · subst hv
      go_wp2
      go_loopw [25] (fun i wr => ∃ k : Nat, k ≤ q ∧ i = .int .i64 k ∧ wr.ownsRow w.heap.size 5 1 (.slice (some ⟨g', 0, none⟩) q cap') q (rowS (bitAt 8 f) q k) ∧ Below w.heap.size w wr) (fun i _ => q - (intOf i).toNat)
      case atStart => exact ⟨0, Nat.zero_le _, rfl, hown, hb⟩
      case round =>
        clear hown hb hT1
        obtain ⟨k, hk, rfl, hown, hb⟩ := hrel
        by_cases hlt : k < q
        · obtain ⟨x, hx, hx32⟩ := val5 (bitAt 8 f) hg (5 * k)
          have hc := hown.cellAt k (by omega)
          rw [rowS_at _ _ _ hlt, hx] at hc
          have hfz := hown.frozenAt k
          have htc := tab_cell wr (hT.below hb hT0) x hx32
          have HS := hown.stored k (.int .u8 (sg x))
          have HX : Hid (val (bitAt 8 f) (5 * k) 5 = x) := hx
          clear hx
          go_wp2
          go_roundw
          case rel =>
            have hx := HX.out
            have e := rowS_set (bitAt 8 f) q k hlt
            rw [hx, Int.toNat_natCast] at e
            exact ⟨k + 1, by omega, by go_num, by rw [← e]; exact HS.1, hb.setCell hle _⟩
          case measure => simp [intOf]; omega
        · obtain rfl : k = q := by omega
          rw [rowS_full] at hown
          have hcv := conv_own _ _ _ _ _ hown
          go_wp2
          go_ret
          exact ⟨rfl, hb⟩
  · obtain rfl : N = q + 1 := by omega
    have hX : val (bitAt 8 f) (5 * q) l * 2 ^ (5 - l) % 256 = val (bitAt 8 f) (5 * q) 5 := by
      have h1 := val_add (bitAt 8 f) (5 * q) l (5 - l)
      have h2 := val_zero (bitAt 8 f) (5 * q + l) (5 - l) (fun i hi => by
        unfold bitAt
        rw [hf0 _ (by omega)]
        simp)
      have h3 := val_bd (bitAt 8 f) hg (5 * q) 5
      rw [h2, Int.add_zero, show l + (5 - l) = 5 by omega] at h1
      rw [← h1]
      exact Int.emod_eq_of_lt h3.1 (by omega)
    have hsz := hb.size
    go_wp2_with (at_builtin; refine wpList_append_own_wide _ rfl _ _ 36 rfl w.heap.size 5 i0 (.int .u8 0) 1 1 Tryz.underlying36 hi hz0 hz1 hz2 rfl (by decide) _ _ _ rfl (hown.alloc _) ⟨w1.heap.size, 0, none⟩ 1 1 [.int .u8 (val (bitAt 8 f) (5 * q) 5)] rfl rfl ?c1 ?c2 ?c3 ?c4 ?c5 ?_)
    case c1 => exact cell_one_new _ _ _
    case c2 => intro u hu; simp at hu; subst hu; rfl
    case c3 => unfold maxLen; omega
    case c4 => omega
    case c5 => simp; omega
    intro v' w2 hown' hgrow _
    have hb2 : Below w.heap.size w w2 := by
      refine (hb.alloc hsz _).grown hgrow (by simp; omega) (fun r hr => ?_)
      obtain ⟨_, ⟨rfl, _⟩ | ⟨g', cap, cur, rfl, hle, _⟩⟩ := hown
      · cases hr
      · simp [Value.ownBlock] at hr; omega
    rw [← row_succ, ← rowS_zero] at hown'
    have hN' : q + 1 ≤ 281474976710656 := by omega
    clear hown hb hgrow hX hm hl hi hz0 hz1 hz2 hf hf0 hT1 hsz
    have hown := hown'
    have hb := hb2
    have hT1 := hT
    clear hown' hb2
    have hown0 := hown
    obtain ⟨_, ⟨hv, hq0⟩ | ⟨g', cap', cur, hv, hle, _⟩⟩ := hown0
    · exact absurd hq0 (by omega)
    · subst hv
      go_wp2
      go_loopw [25] (fun i wr => ∃ k : Nat, k ≤ q + 1 ∧ i = .int .i64 k ∧ wr.ownsRow w.heap.size 5 1 (.slice (some ⟨g', 0, none⟩) (q + 1) cap') (q + 1) (rowS (bitAt 8 f) (q + 1) k) ∧ Below w.heap.size w wr) (fun i _ => q + 1 - (intOf i).toNat)
      case atStart => exact ⟨0, Nat.zero_le _, rfl, hown, hb⟩
      case round =>
        clear hown hb hT1
        obtain ⟨k, hk, rfl, hown, hb⟩ := hrel
        by_cases hlt : k < q + 1
        · obtain ⟨x, hx, hx32⟩ := val5 (bitAt 8 f) hg (5 * k)
          have hc := hown.cellAt k (by omega)
          rw [rowS_at _ _ _ hlt, hx] at hc
          have hfz := hown.frozenAt k
          have htc := tab_cell wr (hT.below hb hT0) x hx32
          have HS := hown.stored k (.int .u8 (sg x))
          have HX : Hid (val (bitAt 8 f) (5 * k) 5 = x) := hx
          clear hx
          go_wp2
          go_roundw
          case rel =>
            have hx := HX.out
            have e := rowS_set (bitAt 8 f) (q + 1) k hlt
            rw [hx, Int.toNat_natCast] at e
            exact ⟨k + 1, by omega, by go_num, by rw [← e]; exact HS.1, hb.setCell hle _⟩
          case measure => simp [intOf]; omega
        · obtain rfl : k = q + 1 := by omega
          rw [rowS_full] at hown
          have hcv := conv_own _ _ _ _ _ hown
          go_wp2
          go_ret
          exact ⟨rfl, hb⟩
theorem encode_any (a : Option Addr) (b off len cap : Nat) (f : Nat → Int) (w : World) (hT : Tab w) (hlen : len ≤ 140737488351232)
    (ha : 0 < len → a = some ⟨b, off, none⟩) (hcell : ∀ i, i < len → w.cell? ⟨b, off + i, none⟩ = some (.int .u8 (f i))) (hf : ∀ i, 0 ≤ f i ∧ f i < 256) (hf0 : ∀ i, len ≤ i → f i = 0) :
    Calls Tryz.prog 139 #[.slice a len cap] w fun e w' => e = .returned (.string (strOfNums (enc (bitAt 8 f) ((8 * len + 4) / 5)))) ∧ Below w.heap.size w w' :=
  encode_core a b off len cap _ f w hT hlen (by omega) (by omega) ha hcell hf hf0
end Go.Proofs.YtppgidmeeaodkaaGreatDoor.S2
