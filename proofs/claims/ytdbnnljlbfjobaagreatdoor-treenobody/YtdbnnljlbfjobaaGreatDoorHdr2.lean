/- A header, written. -/
import Derived.Test.YtdbnnljlbfjobaaGreatDoorHdr
namespace Go.Proofs.YtdbnnljlbfjobaaGreatDoor
open Go.RowKit Go.Lib

/-- Bytes with a number in eight of them. -/
def setw (f : Nat → Int) (i : Nat) (v : Nat) (j : Nat) : Int := if i * 8 ≤ j ∧ j < i * 8 + 8 then (v : Int) / 2 ^ (8 * (7 - (j - i * 8))) % 256 else f j
theorem setw_bd (f : Nat → Int) (i v : Nat) (hf : ∀ j, 0 ≤ f j ∧ f j < 256) : ∀ j, 0 ≤ setw f i v j ∧ setw f i v j < 256 := fun j => by
  unfold setw
  split
  · omega
  · exact hf j
/-- Of the blocks that were there only b has changed. -/
structure ChgB (b : Nat) (w w' : World) : Prop where
  os : w'.os = w.os
  tape : w'.tape = w.tape
  output : w'.output = w.output
  size : w.heap.size ≤ w'.heap.size
  block : ∀ k, k < w.heap.size → k ≠ b → w'.heap[k]? = w.heap[k]?
theorem over_list (f : Nat → Int) (i v : Nat) (hi : i ≤ 31) : (((byts f 256).toArray.toList.take (i * 8) ++ byts (fun j => (v : Int) / 2 ^ (8 * (8 - 1 - j)) % 256) 8 ++ (byts f 256).toArray.toList.drop (i * 8 + 8)).toArray) = (byts (setw f i v) 256).toArray := by
  congr 1
  apply List.ext_getElem?
  intro j
  have hl1 : ((byts f 256).toArray.toList.take (i * 8)).length = i * 8 := by simp [byts_len]; omega
  have hl2 : ((byts f 256).toArray.toList.take (i * 8) ++ byts (fun j => (v : Int) / 2 ^ (8 * (8 - 1 - j)) % 256) 8).length = i * 8 + 8 := by rw [List.length_append, hl1, byts_len]
  by_cases hj : j < 256
  · rw [byts_at _ _ _ hj]
    unfold setw
    by_cases h1 : j < i * 8
    · rw [if_neg (by omega), List.getElem?_append_left (by omega), List.getElem?_append_left (by omega), List.getElem?_take_of_lt h1]
      simpa using byts_at f 256 j hj
    · by_cases h2 : j < i * 8 + 8
      · rw [if_pos (by omega), List.getElem?_append_left (by omega), List.getElem?_append_right (by omega), hl1, byts_at _ _ _ (by omega)]
      · rw [if_neg (by omega), List.getElem?_append_right (by omega), hl2, List.getElem?_drop, show i * 8 + 8 + (j - (i * 8 + 8)) = j by omega]
        simpa using byts_at f 256 j hj
  · rw [List.getElem?_eq_none (by rw [List.length_append, hl2]; simp [byts_len]; omega), List.getElem?_eq_none (by rw [byts_len]; omega)]

set_option maxRecDepth 20000 in
set_option maxHeartbeats 2000000 in
theorem setWord_any (b i v : Nat) (f : Nat → Int) (w : World) (hi : i ≤ 31) (hv : v < 9223372036854775808) (hR : Row w b (byts f 256).toArray 5) :
    Calls Tryz.prog 124 #[.slice (some ⟨b, 0, none⟩) 256 256, .int .i64 i, .int .i64 v] w fun e w' => (∃ r, e = .returned r) ∧ Row w' b (byts (setw f i v) 256).toArray 5 ∧ ChgB b w w' := by
  have HB := bytes_any v 8 w (by omega) (by omega)
  have HHB : Hid _ := HB
  have HR : Hid _ := hR
  have hvm : IntKind.u64.wrap (v : Int) = v := by rw [IntKind.wrap_u64]; omega
  have hov := over_list f i v hi
  generalize (byts (setw f i v) 256).toArray = C' at *
  have HOV : Hid _ := hov
  clear HB hR hov
  go_enter Tryz.func124, Tryz.ntmps124
  go_wp2_with fail
  refine Calls.mono HHB.out ?_
  rintro e w1 ⟨rfl, hb1, hs1, hrow⟩
  have hlt := Row.lt HR.out
  have hR1 : Row w1 b (byts f 256).toArray 5 := Row.below HR.out hb1 hlt
  have hlen := byts_len (fun j => (v : Int) / 2 ^ (8 * (8 - 1 - j)) % 256) 8
  have hcp := run_copy_row (P := Tryz.prog) w1 31 31 3 5 b (i * 8) (256 - i * 8) (256 - i * 8) ⟨w.heap.size, 0, none⟩ 8 8 (byts f 256).toArray 5 (byts (fun j => (v : Int) / 2 ^ (8 * (8 - 1 - j)) % 256) 8) Tryz.underlying31 info5s hR1 (by rw [hlen]; exact (Nat.min_eq_left (by omega)).symm) (fun j u hj => by
    have hj' : j < 8 := by rw [← hlen]; exact (List.getElem?_eq_some_iff.1 hj).1
    rw [Addr.add_mid, Nat.zero_add, hrow.cell hj', ← hj, byts_at _ _ _ hj']) (by rw [hlen]; simp [byts_len]; omega) (byts_one _ _)
  rw [hlen, HOV.out] at hcp
  have hR2 : Row (w1.setRow b C') b C' 5 := hR1.setRow
  have hC2 : ChgB b w (w1.setRow b C') := ⟨hb1.os, hb1.tape, hb1.output, by simpa [World.setRow] using hb1.size, fun k hk hkb => (setRow_other _ _ _ _ hkb).trans (hb1.block k hk)⟩
  have HR2 : Hid _ := hR2
  have HC2 : Hid _ := hC2
  clear hR2 hC2 hR1 hrow hlen HHB HR HOV
  go_wp2
  go_end0
  exact ⟨⟨_, rfl⟩, HR2.out, HC2.out⟩
/-- The mark, and noughts behind it. -/
def markF (j : Nat) : Int := ([115, 116, 105, 108, 108, 119, 97, 108] : List Int).getD j 0
theorem markF_bd : ∀ j, 0 ≤ markF j ∧ markF j < 256 := fun j => by
  unfold markF
  match j with
  | 0 => decide
  | 1 => decide
  | 2 => decide
  | 3 => decide
  | 4 => decide
  | 5 => decide
  | 6 => decide
  | 7 => decide
  | j + 8 => simp [List.getD]
/-- The header of the first n of these numbers. -/
def hdrN (K : List Nat) : Nat → Nat → Int
  | 0 => setw markF 1 K.length
  | n + 1 => setw (hdrN K n) (2 + n) (K.getD n 0)
def hdr (K : List Nat) : Nat → Int := hdrN K K.length
theorem hdrN_bd (K : List Nat) (n : Nat) : ∀ j, 0 ≤ hdrN K n j ∧ hdrN K n j < 256 := by
  induction n with
  | zero => exact setw_bd _ _ _ markF_bd
  | succ n ih => exact setw_bd _ _ _ ih
theorem hdr_bd (K : List Nat) : ∀ j, 0 ≤ hdr K j ∧ hdr K j < 256 := hdrN_bd K _
theorem mark_list (Z : Array Value) (hZ : Z.toList = byts (fun _ => 0) 256) : (Z.toList.take 0 ++ byteCells [115, 116, 105, 108, 108, 119, 97, 108] ++ Z.toList.drop (0 + 8)).toArray = (byts markF 256).toArray := by
  rw [hZ]
  kernel_rfl

set_option maxRecDepth 20000 in
set_option maxHeartbeats 4000000 in
theorem headerOf_ok {w : World} {base : Nat} {v : Value} {K : List Nat} (hK : NumsAt w base v K) (hl : K.length ≤ 30) (hk : ∀ i, K.getD i 0 < 9223372036854775808) :
    Calls Tryz.prog 91 #[v] w fun e w' => e = .returned (.slice (some ⟨w.heap.size, 0, none⟩) 256 256) ∧ Row w' w.heap.size (byts (hdr K) 256).toArray 5 ∧ Below w.heap.size w w' := by
  obtain ⟨a, c, rfl, hKI⟩ := hK.ex
  have hmk := fun w => run_make_row' (P := Tryz.prog) 31 5 (.int .u8 0) 1 Tryz.underlying31 Tryz.info5 rfl .i64 .i64 256 (by omega) (by omega) w
  simp only [show ((256 : Nat) : Int) = 256 from rfl] at hmk
  have hZb := made_byts 256
  generalize madeCells #[.int .u8 0] 256 = Z at *
  have hm := mark_list Z hZb
  have hsz : Z.size = 256 := by rw [← Array.length_toList, hZb, byts_len]
  have hcp := run_copy_row_string (P := Tryz.prog) (w.alloc (.cells Z 5)) 31 9 3 5 w.heap.size 0 256 256 ⟨#[115, 116, 105, 108, 108, 119, 97, 108]⟩ Z 5 Tryz.underlying31 info5s (Row.new w Z 5) (by decide) (by rw [hsz]; decide)
  rw [show (byteCells (⟨#[115, 116, 105, 108, 108, 119, 97, 108]⟩ : ByteArray).data.toList) = byteCells [115, 116, 105, 108, 108, 119, 97, 108] from rfl, show 0 + (⟨#[115, 116, 105, 108, 108, 119, 97, 108]⟩ : ByteArray).size = 0 + 8 from rfl, hm] at hcp
  have hR1 : Row ((w.alloc (.cells Z 5)).setRow w.heap.size (byts markF 256).toArray) w.heap.size (byts markF 256).toArray 5 := (Row.new w Z 5).setRow
  have hb1 : Below w.heap.size w ((w.alloc (.cells Z 5)).setRow w.heap.size (byts markF 256).toArray) := below_setRow ((Below.refl _ _).alloc (Nat.le_refl _) _) (Nat.le_refl _) _
  have hs1 : ((w.alloc (.cells Z 5)).setRow w.heap.size (byts markF 256).toArray).heap.size = w.heap.size + 1 := by simp [World.setRow]
  have HR1 : Hid _ := hR1
  have HB1 : Hid _ := hb1
  have HS1 : Hid _ := hs1
  have HKI : Hid _ := hKI
  have HK : Hid _ := hk
  clear hR1 hb1 hs1 hm hZb hsz hKI hK hk
  go_enter Tryz.func91, Tryz.ntmps91
  go_wp2_with fail
  have HW := setWord_any w.heap.size 1 K.length markF _ (by omega) (by omega) HR1.out
  rw [show ((1 : Nat) : Int) = 1 from rfl] at HW
  have HHW : Hid _ := HW
  clear HW hcp hmk
  refine Calls.mono HHW.out ?_
  rintro e w2 ⟨⟨r, rfl⟩, hR2, hc2⟩
  have HR2 : Hid (Row w2 w.heap.size (byts (hdrN K 0) 256).toArray 5) := hR2
  have HB2 : Hid (Below w.heap.size w w2) := HB1.out.trans ⟨hc2.os, hc2.tape, hc2.output, hc2.size, fun k hk => hc2.block k (by have := HB1.out.size; omega) (by omega)⟩
  clear hR2 hc2 HR1 HB1 HS1 HHW
  go_wp2
  go_loopw [15] (fun iv wx => ∃ n : Nat, n ≤ K.length ∧ iv = .int .i64 n ∧ Hid (Row wx w.heap.size (byts (hdrN K n) 256).toArray 5) ∧ Hid (Below w.heap.size w wx)) (fun iv _ => K.length - (intOf iv).toNat)
  case atStart => exact ⟨0, Nat.zero_le _, rfl, HR2, HB2⟩
  case round =>
    obtain ⟨n, hn, rfl, hRn, hBn⟩ := hrel
    clear HR2 HB2
    by_cases hlt : n < K.length
    · obtain ⟨b, rfl, _, hI⟩ := HKI.out (by omega)
      have hblt : b < w.heap.size := by
        obtain ⟨cur, h1, _⟩ := hI.ex
        exact h1.lt
      have cn := (hI.keep (hBn.out.block b hblt)).cell n hlt
      obtain ⟨kn, hkn⟩ : ∃ kn, K.getD n 0 = kn := ⟨_, rfl⟩
      have hkb := HK.out n
      rw [hkn] at cn hkb
      have HKN : Hid _ := hkn
      have HW := setWord_any w.heap.size (2 + n) kn (hdrN K n) wr (by omega) hkb hRn.out
      rw [show ((2 + n : Nat) : Int) = 2 + (n : Int) by omega] at HW
      have HHW : Hid _ := HW
      clear HW hI hkn hkb
      go_wp2_with fail
      refine Calls.mono HHW.out ?_
      rintro e w3 ⟨⟨r, rfl⟩, hR3, hc3⟩
      have HR3 : Hid (Row w3 w.heap.size (byts (hdrN K (n + 1)) 256).toArray 5) := by
        show Row w3 w.heap.size (byts (setw (hdrN K n) (2 + n) (K.getD n 0)) 256).toArray 5
        rw [show K.getD n 0 = kn from HKN.out]
        exact hR3
      have HB3 : Hid (Below w.heap.size w w3) := hBn.out.trans ⟨hc3.os, hc3.tape, hc3.output, hc3.size, fun k hk => hc3.block k (by have := hBn.out.size; omega) (by omega)⟩
      clear hR3 hc3 HHW
      go_wp2
      go_roundw
      case rel => exact ⟨n + 1, by omega, by go_num, HR3, HB3⟩
      case measure => simp [intOf]; omega
    · have hnK : n = K.length := by omega
      subst hnK
      go_wp2
      go_ret
      exact ⟨rfl, hRn.out, hBn.out⟩
end Go.Proofs.YtdbnnljlbfjobaaGreatDoor
