/- The walk of the law BitsBack over the contracts of Encode and Decode. -/
import Derived.Test.YtonaefebgpohjaaDoorDecode
import Derived.Test.YtonaefebgpohjaaDoorOrder
namespace Go.Proofs.YtonaefebgpohjaaDoor
open Go.RowKit Math

set_option maxHeartbeats 1000000 in
theorem law_back (a1 a2 : Option Addr) (len1 cap1 len2 cap2 : Nat) (S T A B : ByteArray) (w : World) (hl1 : len1 ≤ 140737488351232) (hl2 : len2 ≤ 140737488351232)
    (HE1 : ∀ wr, Below w.heap.size w wr → Calls Tryd.prog 5 #[.slice a1 len1 cap1] wr fun e w' => e = .returned (.string S) ∧ Below wr.heap.size wr w')
    (HE2 : ∀ wr, Below w.heap.size w wr → Calls Tryd.prog 5 #[.slice a2 len2 cap2] wr fun e w' => e = .returned (.string T) ∧ Below wr.heap.size wr w')
    (HD : ∀ wr, Below w.heap.size w wr → Calls Tryd.prog 6 #[.string S] wr fun e w' => ∃ v, e = .returned (.tuple #[v, .int .i64 0]) ∧ Below wr.heap.size wr w' ∧ (convert 22 9 v).run Tryd.prog w' = .ok (.string A) w')
    (HC1 : ∀ wr, Below w.heap.size w wr → (convert 22 9 (.slice a1 len1 cap1)).run Tryd.prog wr = .ok (.string A) wr)
    (HC2 : ∀ wr, Below w.heap.size w wr → (convert 22 9 (.slice a2 len2 cap2)).run Tryd.prog wr = .ok (.string B) wr)
    (hsz : (S.size : Int) = (8 * (len1 : Int) + 4) / 5)
    (h1 : len1 = len2 → Op.bytesLess S.toList T.toList = Op.bytesLess A.toList B.toList) (h2 : len1 = len2 → (S.toList == T.toList) = (A.toList == B.toList)) :
    Calls Tryd.prog 4 #[.slice a1 len1 cap1, .slice a2 len2 cap2] w fun e w' => e = .returned (.bool true) ∧ Below w.heap.size w w' := by
  have HE1' : Hid _ := HE1
  have HE2' : Hid _ := HE2
  have HD' : Hid _ := HD
  have HC1' : Hid _ := HC1
  have HC2' : Hid _ := HC2
  have H1 : Hid _ := h1
  have H2 : Hid _ := h2
  have HS : Hid _ := hsz
  clear HE1 HE2 HD HC1 HC2 h1 h2 hsz
  go_enter Tryd.func4, Tryd.ntmps4
  go_wp2_with fail
  refine (HE1'.out w (Below.refl _ _)).mono ?_
  rintro e w1 ⟨rfl, hb1⟩
  go_wp2_with fail
  refine (HE2'.out w1 hb1).mono ?_
  rintro e w2 ⟨rfl, hb2⟩
  have hb2' : Below w.heap.size w w2 := hb1.trans (hb2.mono hb1.size)
  go_wp2_with fail
  refine (HD'.out w2 hb2').mono ?_
  rintro e w3 ⟨v, rfl, hb3, hcv⟩
  have hb3' : Below w.heap.size w w3 := hb2'.trans (hb3.mono hb2'.size)
  have hc1 := HC1'.out w3 hb3'
  have hc2 := HC2'.out w3 hb3'
  have hsz := HS.out
  clear HE1' HE2' HD' HC1' HC2' HS hb1 hb2 hb3 hb2'
  by_cases hl : len1 = len2
  · subst hl
    have h1 := H1.out rfl
    have h2 := H2.out rfl
    clear H1 H2
    go_wp2
    go_ret
    exact ⟨rfl, hb3'⟩
  · clear H1 H2
    go_wp2
    go_ret
    exact ⟨rfl, hb3'⟩

/-- Bytes that came in: their numbers by the place, 0 behind them. -/
structure Bs (w : World) (a : Option Addr) (b off len : Nat) (f : Nat → Int) : Prop where
  at' : 0 < len → a = some ⟨b, off, none⟩
  cell : ∀ i, i < len → w.cell? ⟨b, off + i, none⟩ = some (.int .u8 (f i))
  bd : ∀ i, 0 ≤ f i ∧ f i < 256
  past : ∀ i, len ≤ i → f i = 0

theorem Bs.below {w wr : World} {a : Option Addr} {b off len : Nat} {f : Nat → Int} (h : Bs w a b off len f) (hb : Below w.heap.size w wr) : Bs wr a b off len f :=
  ⟨h.at', fun i hi => by rw [hb.cell (p := ⟨b, off + i, none⟩) (World.block_lt_of_cell? _ _ (h.cell i hi))]; exact h.cell i hi, h.bd, h.past⟩

theorem Bs.conv {w : World} {a : Option Addr} {b off len : Nat} {f : Nat → Int} (h : Bs w a b off len f) (cap : Nat) : (convert 22 9 (.slice a len cap)).run Tryd.prog w = .ok (.string (strOfNums (raw f len))) w := by
  by_cases h0 : len = 0
  · subst h0
    cases a with
    | none => exact run_convert_bytes_nil (P := Tryd.prog) w 22 5 Tryd.underlying22 Tryd.underlying5 0 cap 9 Tryd.underlying9
    | some x =>
      rw [run_convert_bytes_string w 22 9 5 _ 0 cap Tryd.underlying22 Tryd.underlying5 Tryd.underlying9]
      exact run_bytesToString w x 0 cap [] (run_loadCells_list (P := Tryd.prog) w x [] (fun j v hj => by simp at hj))
  · obtain rfl := h.at' (by omega)
    refine run_convert_bytes_arg (P := Tryd.prog) w 22 5 Tryd.underlying22 Tryd.underlying5 b off len cap (raw f len) (by simp [raw]) (fun i hi => ?_) 9 Tryd.underlying9
    rw [h.cell i hi]; simp [raw, List.getD, hi]

theorem size_enc (g : Nat → Int) (N : Nat) : (strOfNums (enc g N)).size = N := by rw [strOfNums_size]; simp [enc]

/-- The signs of bytes are read as these. -/
theorem decode_enc (w : World) (f : Nat → Int) (L : Nat) (hT : Tab w) (hL : L ≤ 140737488351232) (hf : ∀ i, 0 ≤ f i ∧ f i < 256) (hf0 : ∀ i, L ≤ i → f i = 0) :
    Calls Tryd.prog 6 #[.string (strOfNums (enc (bitAt 8 f) ((8 * L + 4) / 5)))] w fun e w' => ∃ v, e = .returned (.tuple #[v, .int .i64 0]) ∧ Below w.heap.size w w' ∧ (convert 22 9 v).run Tryd.prog w' = .ok (.string (strOfNums (raw f L))) w' := by
  have hgb := bitAt_bd 8 f
  obtain ⟨vs, hvs⟩ : ∃ vs : Nat → Nat, ∀ j, val (bitAt 8 f) (5 * j) 5 = vs j := ⟨fun j => (val (bitAt 8 f) (5 * j) 5).toNat, fun j => by have := val_bd (bitAt 8 f) hgb (5 * j) 5; exact (Int.toNat_of_nonneg this.1).symm⟩
  have h32 : ∀ k, vs k < 32 := fun k => by have := val_bd (bitAt 8 f) hgb (5 * k) 5; have := hvs k; omega
  have hg : bitAt 5 (fun i => (vs i : Int)) = bitAt 8 f := by
    funext k
    have e := bitAt_val (bitAt 8 f) hgb 5 (by decide) k
    rw [← e]
    congr 1
    funext i
    exact (hvs i).symm
  have hN := size_enc (bitAt 8 f) ((8 * L + 4) / 5)
  refine (decode_any (strOfNums (enc (bitAt 8 f) ((8 * L + 4) / 5))) vs w hT (by rw [hN]; omega) (fun k hk => ?_) h32).mono ?_
  · have hk' : k < (8 * L + 4) / 5 := by omega
    have hb := sg_lt (vs k)
    have e : (strOfNums (enc (bitAt 8 f) ((8 * L + 4) / 5)))[k] = UInt8.ofNat (sg (vs k)).toNat := by
      show (strOfNums (enc (bitAt 8 f) ((8 * L + 4) / 5))).data[k] = _
      simp [strOfNums, enc, hvs]
    rw [e, UInt8.toNat_ofNat_of_lt' (by simp; omega)]
    omega
  · rintro e w' ⟨q, l, hql, hl, hb, h⟩
    rw [hN] at hql
    rw [hg] at h
    obtain rfl : q = L := by omega
    rcases h with ⟨_, _, v, he, hown⟩ | ⟨hno, _⟩
    · refine ⟨v, he, hb, ?_⟩
      have hr : row (bitAt 8 f) 8 q = (raw f q).map (Value.int .u8) := by
        rw [raw_val f q hf]; simp [row]
      rw [hr] at hown
      exact conv_own w' w.heap.size v q (raw f q) hown
    · exact absurd ⟨by omega, val_zero _ _ _ (fun i _ => by unfold bitAt; rw [hf0 _ (by omega)]; simp)⟩ hno

/-- THE LAW. -/
theorem back_any (a1 a2 : Option Addr) (b1 o1 b2 o2 len1 cap1 len2 cap2 : Nat) (f1 f2 : Nat → Int) (w : World) (hT : Tab w) (hl1 : len1 ≤ 140737488351232) (hl2 : len2 ≤ 140737488351232)
    (A1 : Bs w a1 b1 o1 len1 f1) (A2 : Bs w a2 b2 o2 len2 f2) :
    Calls Tryd.prog 4 #[.slice a1 len1 cap1, .slice a2 len2 cap2] w fun e w' => e = .returned (.bool true) ∧ Below w.heap.size w w' := by
  have hp := hT.pos
  refine law_back a1 a2 len1 cap1 len2 cap2 (strOfNums (enc (bitAt 8 f1) ((8 * len1 + 4) / 5))) (strOfNums (enc (bitAt 8 f2) ((8 * len2 + 4) / 5))) (strOfNums (raw f1 len1)) (strOfNums (raw f2 len2)) w hl1 hl2 ?_ ?_ ?_ ?_ ?_ ?_ ?_ ?_
  · intro wr hb
    have A := A1.below hb
    exact encode_any a1 b1 o1 len1 cap1 f1 wr (hT.below hb hp) hl1 A.at' A.cell A.bd A.past
  · intro wr hb
    have A := A2.below hb
    exact encode_any a2 b2 o2 len2 cap2 f2 wr (hT.below hb hp) hl2 A.at' A.cell A.bd A.past
  · intro wr hb
    exact decode_enc wr f1 len1 (hT.below hb hp) hl1 A1.bd A1.past
  · intro wr hb
    exact (A1.below hb).conv cap1
  · intro wr hb
    exact (A2.below hb).conv cap2
  · rw [size_enc]; omega
  · rintro rfl
    exact order_same f1 f2 len1 _ A1.bd A2.bd A1.past A2.past (by omega)
  · rintro rfl
    exact same_same f1 f2 len1 _ A1.bd A2.bd A1.past A2.past (by omega)
end Go.Proofs.YtonaefebgpohjaaDoor
