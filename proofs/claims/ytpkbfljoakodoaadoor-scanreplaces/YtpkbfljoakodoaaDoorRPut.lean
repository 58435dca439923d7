/- My own work: the walk of the document's own put: signs replaced in a text, from the left on. -/
import Derived.Test.YtpkbfljoakodoaaDoorRplM
import Derived.Test.YtpkbfljoakodoaaDoorBufs
namespace Go.Proofs.YtpkbfljoakodoaaDoor
open Go.RowKit
open S2 (bl bl_len bl_inj ex_size)

theorem pre_win (old : ByteArray) (t : ByteArray) (i : Nat) (ho : old.size = 32) : (bl old).isPrefixOf ((bl t).drop i) = decide (t.extract i (i + 32) = old) := by
  have hb : (bl old).length = 32 := by rw [bl_len, ho]
  rw [Bool.eq_iff_iff, List.isPrefixOf_iff_prefix, List.prefix_iff_eq_take, hb, decide_eq_true_iff]
  constructor
  · intro e
    refine bl_inj ?_
    rw [win_ex]
    exact e.symm
  · intro e
    rw [← e, win_ex]
    rfl
set_option maxRecDepth 20000 in
set_option maxHeartbeats 4000000 in
/-- put: all instances of signs in a text by others. -/
theorem rput_ok (t old new : ByteArray) (w : World) (ho : old.size = 32) (hn : new.size = 32) (ht : t.size ≤ 4294967280) :
    Calls Tryd.prog 52 #[.string t, .string old, .string new] w fun e w' => e = .returned (.string ⟨(rpl (bl old) (bl new) (bl t)).toArray⟩) ∧ Below w.heap.size w w' := by
  have hne : bl old ≠ [] := fun e => by have := bl_len old; rw [e, ho] at this; cases this
  have hlt := bl_len t
  have HLT : Hid _ := hlt
  clear hlt
  go_enter Tryd.func52, Tryd.ntmps52
  go_wp2
  go_loopw [7, 8] (fun v iv wr => ∃ (i : Nat) (X : List UInt8), iv = .int .i64 i ∧ i ≤ t.size ∧ Hid (X.length = i) ∧ Hid (Buf wr w.heap.size v X) ∧ Hid (X ++ rpl (bl old) (bl new) ((bl t).drop i) = rpl (bl old) (bl new) (bl t)) ∧ Hid (Below w.heap.size w wr)) (fun _ iv _ => t.size - (intOf iv).toNat)
  case atStart => exact ⟨0, [], rfl, Nat.zero_le _, rfl, World.ownsRow_nil _ _ _ _, rfl, Below.refl _ _⟩
  case round =>
    obtain ⟨i, X, rfl, hi, HXL, HBF, HIN, HB⟩ := hrel
    have hsz := HB.out.size
    by_cases hlt : i < t.size
    · have hlt' : (i : Int) < (t.size : Int) := by omega
      have hXb : X.length + 32 ≤ 140737488355328 := by rw [HXL.out]; omega
      have hdr : (bl t).drop i = t[i] :: (bl t).drop (i + 1) := by
        rw [List.drop_eq_getElem_cons (by rw [HLT.out]; exact hlt)]
        rfl
      by_cases hroom : i + 32 ≤ t.size
      · have hr' : (i : Int) + 32 ≤ (t.size : Int) := by omega
        obtain ⟨x, hx⟩ : ∃ x, t.extract i (i + 32) = x := ⟨_, rfl⟩
        have hpw := pre_win old t i ho
        rw [hx] at hpw
        by_cases he : x = old
        · subst he
          have HF : Hid (X ++ bl new ++ rpl (bl x) (bl new) ((bl t).drop (i + 32)) = rpl (bl x) (bl new) (bl t)) := by
            show _ = _
            have h1 := HIN.out
            rw [rpl_yes hne _ (by rw [hpw]; simp), bl_len, ho, List.drop_drop] at h1
            simpa [List.append_assoc] using h1
          clear hpw hdr HIN
          have hns : X.length + new.size ≤ 140737488355328 := by rw [hn]; exact hXb
          go_wp2_with (refine ap_str rfl _ _ rfl w.heap.size _ _ rfl HBF.out new rfl hns hsz ?_; intro v5 w5 hM5; have HM5 : Hid (More w.heap.size wr u7 w5 v5 (X ++ new.data.toList)) := hM5; clear hM5)
          go_roundw
          case rel =>
            refine ⟨i + 32, X ++ bl new, by go_num, by omega, ?_, HM5.out.buf, HF, HB.out.trans (HM5.out.below HBF.out hsz)⟩
            show _ = _
            rw [List.length_append, HXL.out, bl_len, hn]
          case measure => simp [intOf]; omega
        · have h2 : (x.toList == old.toList) = false := by
            have : x.toList ≠ old.toList := fun e => he (by
              rw [ByteArray.toList_eq, ByteArray.toList_eq] at e
              exact bl_inj e)
            simpa using this
          have h3 : decide (x = old) = false := decide_eq_false he
          have HF : Hid (X ++ [t[i]] ++ rpl (bl old) (bl new) ((bl t).drop (i + 1)) = rpl (bl old) (bl new) (bl t)) := by
            show _ = _
            have h1 := HIN.out
            rw [h3, hdr] at hpw
            rw [hdr, rpl_no hne _ _ hpw] at h1
            simpa [List.append_assoc] using h1
          obtain ⟨c, hc⟩ : ∃ c, c = t[i] := ⟨_, rfl⟩
          have hc' := hc.symm
          rw [← hc] at HF
          have HB3 : Hid (Buf (wr.alloc (.cells #[.int .u8 c.toNat] 5)) w.heap.size u7 X) := World.ownsRow.alloc HBF.out _
          have hk3 : (wr.alloc (.cells #[.int .u8 c.toNat] 5)).cell? ⟨wr.heap.size, 0, none⟩ = some (.int .u8 c.toNat) := (Row.cell (Row.new wr #[.int .u8 c.toNat] 5) 0).trans rfl
          have hsz3 : w.heap.size ≤ (wr.alloc (.cells #[.int .u8 c.toNat] 5)).heap.size := by simp; omega
          have hX1 : X.length + 1 ≤ 140737488355328 := by omega
          clear hdr HIN hc hpw
          go_wp2_with (refine ap_one rfl _ _ rfl w.heap.size _ _ rfl HB3.out c wr.heap.size 1 rfl hk3 hX1 hsz3 ?_; intro v5 w5 hM5; have HM5 : Hid (More w.heap.size (wr.alloc (.cells #[.int .u8 c.toNat] 5)) u7 w5 v5 (X ++ [c])) := hM5; clear hM5)
          go_roundw
          case rel =>
            have hb1 : Below w.heap.size w (wr.alloc (.cells #[.int .u8 c.toNat] 5)) := HB.out.alloc hsz _
            refine ⟨i + 1, X ++ [c], by go_num, by omega, ?_, HM5.out.buf, HF, hb1.trans (HM5.out.below HB3.out hsz3)⟩
            show _ = _
            rw [List.length_append, HXL.out]
            rfl
          case measure => simp [intOf]; omega
      · have hr' : ¬ (i : Int) + 32 ≤ (t.size : Int) := by omega
        have hr2 : decide ((i : Int) + 32 ≤ (t.size : Int)) = false := decide_eq_false hr'
        have HF : Hid (X ++ [t[i]] ++ rpl (bl old) (bl new) ((bl t).drop (i + 1)) = rpl (bl old) (bl new) (bl t)) := by
          show _ = _
          have h1 := HIN.out
          have hp : (bl old).isPrefixOf ((bl t).drop i) = false := by
            cases hc : (bl old).isPrefixOf ((bl t).drop i) with
            | false => rfl
            | true =>
              have h2 := (List.isPrefixOf_iff_prefix.1 hc).length_le
              rw [List.length_drop, bl_len, HLT.out, ho] at h2
              omega
          rw [hdr] at hp
          rw [hdr, rpl_no hne _ _ hp] at h1
          simpa [List.append_assoc] using h1
        obtain ⟨c, hc⟩ : ∃ c, c = t[i] := ⟨_, rfl⟩
        have hc' := hc.symm
        rw [← hc] at HF
        have HB3 : Hid (Buf (wr.alloc (.cells #[.int .u8 c.toNat] 5)) w.heap.size u7 X) := World.ownsRow.alloc HBF.out _
        have hk3 : (wr.alloc (.cells #[.int .u8 c.toNat] 5)).cell? ⟨wr.heap.size, 0, none⟩ = some (.int .u8 c.toNat) := (Row.cell (Row.new wr #[.int .u8 c.toNat] 5) 0).trans rfl
        have hsz3 : w.heap.size ≤ (wr.alloc (.cells #[.int .u8 c.toNat] 5)).heap.size := by simp; omega
        have hX1 : X.length + 1 ≤ 140737488355328 := by omega
        clear hdr HIN hc
        go_wp2_with (refine ap_one rfl _ _ rfl w.heap.size _ _ rfl HB3.out c wr.heap.size 1 rfl hk3 hX1 hsz3 ?_; intro v5 w5 hM5; have HM5 : Hid (More w.heap.size (wr.alloc (.cells #[.int .u8 c.toNat] 5)) u7 w5 v5 (X ++ [c])) := hM5; clear hM5)
        go_roundw
        case rel =>
          have hb1 : Below w.heap.size w (wr.alloc (.cells #[.int .u8 c.toNat] 5)) := HB.out.alloc hsz _
          refine ⟨i + 1, X ++ [c], by go_num, by omega, ?_, HM5.out.buf, HF, hb1.trans (HM5.out.below HB3.out hsz3)⟩
          show _ = _
          rw [List.length_append, HXL.out]
          rfl
        case measure => simp [intOf]; omega
    · have hie : i = t.size := by omega
      have HF : Hid (X = rpl (bl old) (bl new) (bl t)) := by
        have h1 := HIN.out
        rw [List.drop_of_length_le (by rw [HLT.out]; omega), rpl_nil hne, List.append_nil] at h1
        exact h1
      have hlt' : ¬ (i : Int) < (t.size : Int) := by omega
      have hcv := conv_buf wr w.heap.size u7 X HBF.out
      rw [HF.out] at hcv
      clear HIN hie
      go_wp2
      go_ret
      exact ⟨rfl, HB.out⟩
end Go.Proofs.YtpkbfljoakodoaaDoor
