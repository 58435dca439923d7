/- My own work: a text between quotes; the walk of Quote. -/
import Derived.Test.YtmpgfepkdhjibaaDoorEsc
namespace Go.Proofs.YtmpgfepkdhjibaaDoor
open Go.RowKit

/-- What stands for a byte between quotes. -/
def escU (c : UInt8) : List UInt8 := match signN c with | some x => [92, x] | none => [c]
def escL (l : List UInt8) : List UInt8 := l.flatMap escU
/-- A text between quotes. -/
def quoteU (l : List UInt8) : List UInt8 := 34 :: escL l ++ [34]
theorem escU_len (c : UInt8) : 1 ≤ (escU c).length ∧ (escU c).length ≤ 2 := by unfold escU; split <;> simp
theorem escL_len (l : List UInt8) : l.length ≤ (escL l).length ∧ (escL l).length ≤ 2 * l.length := by
  induction l with
  | nil => simp [escL]
  | cons c l ih =>
    have := escU_len c
    have e : escL (c :: l) = escU c ++ escL l := by simp [escL]
    rw [e, List.length_append, List.length_cons]
    omega
theorem quoteU_len (l : List UInt8) : l.length + 2 ≤ (quoteU l).length ∧ (quoteU l).length ≤ 2 * l.length + 2 := by
  have := escL_len l
  simp only [quoteU, List.length_append, List.length_cons, List.length_nil]
  omega
theorem escL_take (l : List UInt8) (i : Nat) (h : i < l.length) : escL (l.take (i + 1)) = escL (l.take i) ++ escU l[i] := by
  unfold escL
  rw [List.take_succ_eq_append_getElem h, List.flatMap_append]
  simp only [List.flatMap_cons, List.flatMap_nil, List.append_nil]
/-- The bytes of a text. -/
abbrev bl (s : ByteArray) : List UInt8 := s.data.toList
theorem bl_len (s : ByteArray) : (bl s).length = s.size := by rw [Array.length_toList]; rfl
theorem bl_at (s : ByteArray) (i : Nat) (h : i < s.size) : (bl s)[i]'(by rw [bl_len]; exact h) = s[i] := rfl
set_option maxRecDepth 20000 in
set_option maxHeartbeats 2000000 in
theorem quote_ok (s : ByteArray) (w : World) (hT : ETab w) (hs : s.size ≤ 70368744177660) : Calls Tryd.prog 17 #[.string s] w fun e w' => e = .returned (.string ⟨(quoteU (bl s)).toArray⟩) ∧ Below w.heap.size w w' := by
  obtain ⟨v0, w0, hmk, hb0, hbel0⟩ := run_make8 w (s.size + 2) (by omega)
  have hmk' : (Instr.makeSlice 49 (.int .i64 0) (.int .i64 ((s.size : Int) + 2))).run Tryd.prog w = .ok v0 w0 := hmk
  have HB0 : Hid (Buf w0 w.heap.size v0 []) := hb0
  have HL0 : Hid (Below w.heap.size w w0) := hbel0
  have hB0 : w.heap.size ≤ w0.heap.size := hbel0.size
  have HT : Hid (ETab w) := hT
  have hl := bl_len s
  clear hmk hb0 hbel0 hT
  go_enter Tryd.func17, Tryd.ntmps17
  go_wp2_with (refine ap_str rfl _ _ rfl w.heap.size _ _ rfl HB0.out ⟨#[34]⟩ rfl (by simp; decide) hB0 ?_)
  intro v1 w1 hm1
  have HM1 : Hid (Buf w1 w.heap.size v1 (34 :: escL ((bl s).take 0))) := by
    show Buf _ _ _ _
    have := hm1.buf
    simpa [escL] using this
  have HL1 : Hid (Below w.heap.size w w1) := HL0.out.trans (hm1.below HB0.out hB0)
  clear hm1 HB0 HL0 hmk'
  go_wp2
  go_loopw [3, 14] (fun bv iv wx => ∃ (i : Nat), iv = .int .i64 i ∧ i ≤ s.size ∧ Hid (Buf wx w.heap.size bv (34 :: escL ((bl s).take i))) ∧ Hid (Below w.heap.size w wx)) (fun _ iv _ => s.size - (intOf iv).toNat)
  case atStart => exact ⟨0, rfl, Nat.zero_le _, HM1, HL1⟩
  case round =>
    clear HM1 HL1
    obtain ⟨i, rfl, hi, HM, HL⟩ := hrel
    by_cases hlt : i < s.size
    · have hlt' : (i : Int) < (s.size : Int) := by omega
      have hin : i < (bl s).length := by omega
      obtain ⟨c, hc⟩ : ∃ c : UInt8, c = s[i] := ⟨_, rfl⟩
      have hc' := hc.symm
      have HE : Hid (34 :: escL ((bl s).take (i + 1)) = 34 :: escL ((bl s).take i) ++ escU c) := by
        show _ = _
        rw [escL_take _ i hin, hc]
        rfl
      have hlen : (34 :: escL ((bl s).take i)).length ≤ 2 * i + 1 := by
        have := (escL_len ((bl s).take i)).2
        rw [List.length_take] at this
        simp only [List.length_cons]
        omega
      have hszr := HL.out.size
      have HC : Hid (Calls Tryd.prog 31 #[.int .u8 c.toNat] wr fun e w' => e = .returned (pairOf (signN c)) ∧ Below wr.heap.size wr w') := signOf_ok c wr (HT.out.keep HL.out)
      clear hc
      go_wp2_with fail
      refine Calls.mono HC.out ?_
      rintro e w2 ⟨rfl, hb2⟩
      have HM2 : Hid (Buf w2 w.heap.size u3 (34 :: escL ((bl s).take i))) := HM.out.keep hb2
      have HL2 : Hid (Below w.heap.size w w2) := below_next HL.out hb2
      have hsz2 := HL2.out.size
      clear HC HM HL hb2
      cases hs1 : signN c with
      | some x =>
        have he : escU c = [92, x] := by unfold escU; rw [hs1]
        rw [he] at HE
        clear hs1 he
        unfold pairOf
        simp only [Option.getD_some, Option.isSome_some]
        go_wp2_with (refine ap_str rfl _ _ rfl w.heap.size _ _ rfl HM2.out ⟨#[92]⟩ rfl (by simp only [ByteArray.size, List.size_toArray, List.length_cons, List.length_nil] at *; omega) hsz2 ?_)
        intro v3 w3 hm3
        have hk3 : (w3.alloc (.cells #[.int .u8 x.toNat] 5)).cell? ⟨w3.heap.size, 0, none⟩ = some (.int .u8 x.toNat) := (Row.new w3 _ 5).cell 0
        have ho3 := run_one w3 x
        have HB3 : Hid (Buf (w3.alloc (.cells #[.int .u8 x.toNat] 5)) w.heap.size v3 (34 :: escL ((bl s).take i) ++ [92])) := hm3.buf.keep ((Below.refl _ _).alloc (Nat.le_refl _) _)
        have HL3 : Hid (Below w.heap.size w w3) := HL2.out.trans (hm3.below HM2.out hsz2)
        have hsz3 : w.heap.size ≤ (w3.alloc (.cells #[.int .u8 x.toNat] 5)).heap.size := (below_new HL3.out _).size
        have HL4 : Hid (Below w.heap.size w (w3.alloc (.cells #[.int .u8 x.toNat] 5))) := below_new HL3.out _
        have hln : (34 :: escL ((bl s).take i) ++ [92]).length ≤ 2 * i + 2 := by rw [List.length_append]; simp only [List.length_cons, List.length_nil] at *; omega
        clear hm3 HM2 HL2 HL3
        go_wp2_with (refine ap_one rfl _ _ rfl w.heap.size _ _ rfl HB3.out x w3.heap.size 1 rfl hk3 (by omega) hsz3 ?_)
        intro v5 w5 hm5
        have HM5 : Hid (Buf w5 w.heap.size v5 (34 :: escL ((bl s).take (i + 1)))) := by
          show Buf _ _ _ _
          rw [HE.out]
          exact hm5.buf
        have HL5 : Hid (Below w.heap.size w w5) := HL4.out.trans (hm5.below HB3.out hsz3)
        clear hm5 HB3 HL4 hk3 ho3
        go_wp2
        go_roundw
        case rel => exact ⟨i + 1, by go_num, by omega, HM5, HL5⟩
        case measure => simp [intOf]; omega
      | none =>
        have he : escU c = [c] := by unfold escU; rw [hs1]
        rw [he] at HE
        clear hs1 he
        unfold pairOf
        simp only [Option.getD_none, Option.isSome_none]
        have hk3 : (w2.alloc (.cells #[.int .u8 c.toNat] 5)).cell? ⟨w2.heap.size, 0, none⟩ = some (.int .u8 c.toNat) := (Row.new w2 _ 5).cell 0
        have ho3 := run_one w2 c
        have HB3 : Hid (Buf (w2.alloc (.cells #[.int .u8 c.toNat] 5)) w.heap.size u3 (34 :: escL ((bl s).take i))) := HM2.out.keep ((Below.refl _ _).alloc (Nat.le_refl _) _)
        have HL4 : Hid (Below w.heap.size w (w2.alloc (.cells #[.int .u8 c.toNat] 5))) := below_new HL2.out _
        have hsz3 : w.heap.size ≤ (w2.alloc (.cells #[.int .u8 c.toNat] 5)).heap.size := HL4.out.size
        clear HM2 HL2
        go_wp2_with (refine ap_one rfl _ _ rfl w.heap.size _ _ rfl HB3.out c w2.heap.size 1 rfl hk3 (by omega) hsz3 ?_)
        intro v5 w5 hm5
        have HM5 : Hid (Buf w5 w.heap.size v5 (34 :: escL ((bl s).take (i + 1)))) := by
          show Buf _ _ _ _
          rw [HE.out]
          exact hm5.buf
        have HL5 : Hid (Below w.heap.size w w5) := HL4.out.trans (hm5.below HB3.out hsz3)
        clear hm5 HB3 HL4 hk3 ho3
        go_wp2
        go_roundw
        case rel => exact ⟨i + 1, by go_num, by omega, HM5, HL5⟩
        case measure => simp [intOf]; omega
    · have hlt' : ¬ (i : Int) < (s.size : Int) := by omega
      obtain rfl : i = s.size := by omega
      have hsz2 := HL.out.size
      have hlen : (34 :: escL ((bl s).take s.size)).length ≤ 2 * s.size + 1 := by
        have := (escL_len ((bl s).take s.size)).2
        rw [List.length_take] at this
        simp only [List.length_cons]
        omega
      go_wp2_with (refine ap_str rfl _ _ rfl w.heap.size _ _ rfl HM.out ⟨#[34]⟩ rfl (by simp only [ByteArray.size, List.size_toArray, List.length_cons, List.length_nil] at *; omega) hsz2 ?_)
      intro v3 w3 hm3
      have hcv := conv_buf w3 w.heap.size v3 _ hm3.buf
      have HR : Hid (34 :: (escL ((bl s).take s.size) ++ [34]) = quoteU (bl s)) := by
        show _ = _
        rw [← hl, List.take_length]
        rfl
      rw [HR.out] at hcv
      have HL3 : Hid (Below w.heap.size w w3) := HL.out.trans (hm3.below HM.out hsz2)
      clear hm3 HM HL HR
      go_wp2
      go_ret
      exact ⟨rfl, HL3.out⟩
end Go.Proofs.YtmpgfepkdhjibaaDoor
