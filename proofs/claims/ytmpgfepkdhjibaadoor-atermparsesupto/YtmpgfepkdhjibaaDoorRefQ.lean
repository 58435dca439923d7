/- My own work: the walks of the document's Quote, comma and list. -/
import Derived.Test.YtmpgfepkdhjibaaDoorWr2
import Derived.Laws.Concat
namespace Go.Proofs.YtmpgfepkdhjibaaDoor
open Go.RowKit

theorem run_two (w : World) (a b : Int) : (Instr.buildSlice 49 2 #[(0, .int .u8 a), (1, .int .u8 b)]).run Tryd.prog w = .ok (.slice (some ⟨w.heap.size, 0, none⟩) 2 2) (w.alloc (.cells #[.int .u8 a, .int .u8 b] 5)) := by
  obtain ⟨i0, hi, hz0, hz1, hz2⟩ := info_parts infoB
  refine run_buildSlice w 49 5 2 _ _ i0 _ Tryd.underlying49 hi hz0 (by rw [hz1]; decide) (by rw [hz1]; decide) ?_
  rw [hz1]
  exact Great.fill_flat [.int .u8 a, .int .u8 b] _ (fun v hv => by simp at hv; rcases hv with rfl | rfl <;> rfl) (by simp)
section
variable {w : World} {ops : Array Oper} {rest : List Oper} {o : Oper} {a : Act} {Q : Exit → Act → World → Prop}
/-- 'append' of two bytes. -/
theorem ap_two (hgd : o.guard = none) (s x : Operand) (ho : o.op = .call { callee := .builtin .append, args := #[s, x], argTypes := #[49, 49] })
    (B : Nat) (v : Value) (X : List UInt8) (hs : a.eval s = v) (hown : Buf w B v X) (b b' : UInt8) (k c : Nat) (hx : a.eval x = .slice (some ⟨k, 0, none⟩) 2 c) (hk : w.cell? ⟨k, 0, none⟩ = some (.int .u8 b.toNat)) (hk' : w.cell? ⟨k, 1, none⟩ = some (.int .u8 b'.toNat)) (hln : X.length + 2 ≤ 140737488355328) (hB : B ≤ w.heap.size)
    (h : ∀ v' w', More B w v w' v' (X ++ [b, b']) → wpList Tryd.prog ops Q rest (a.put o.dst v') w') : wpList Tryd.prog ops Q (o :: rest) a w :=
  ap_slice hgd s x ho B v X hs hown ⟨k, 0, none⟩ c [b, b'] hx (fun j u hj => by
    have hj0 : j = 0 ∨ j = 1 := by
      have := (List.getElem?_eq_some_iff.1 hj).1
      simp [u8s] at this
      omega
    have ha : (⟨k, 0, none⟩ : Addr).add j = ⟨k, 0 + j, none⟩ := by unfold Addr.add; split <;> simp_all
    rw [ha]
    rcases hj0 with rfl | rfl
    · simp [u8s] at hj
      subst hj
      exact hk
    · simp [u8s] at hj
      subst hj
      exact hk') hln hB h
end
set_option maxRecDepth 20000 in
set_option maxHeartbeats 4000000 in
theorem rquote_ok (s : ByteArray) (w : World) (hs : s.size ≤ 70368744177660) : Calls Tryd.prog 18 #[.string s] w fun e w' => e = .returned (.string (quoteS s)) ∧ Below w.heap.size w w' := by
  have f0 := run_one w 34
  have HM1 : Hid (Buf (w.alloc (.cells #[.int .u8 34] 5)) w.heap.size (.slice (some ⟨w.heap.size, 0, none⟩) 1 1) (34 :: escL ((bl s).take 0))) := World.ownsRow_lit w #[.int .u8 34] 1 (Nat.le_refl _) (by decide) (by simp)
  have HL1 : Hid (Below w.heap.size w (w.alloc (.cells #[.int .u8 34] 5))) := below_new (Below.refl _ _) _
  have hl := bl_len s
  have f0' : (Instr.buildSlice 49 1 #[(0, .int .u8 34)]).run Tryd.prog w = .ok (.slice (some ⟨w.heap.size, 0, none⟩) 1 1) (w.alloc (.cells #[.int .u8 34] 5)) := f0
  clear f0
  go_enter Tryd.func18, Tryd.ntmps18
  go_wp2
  go_loopw [3, 4] (fun bv iv wx => ∃ (i : Nat), iv = .int .i64 i ∧ i ≤ s.size ∧ Hid (Buf wx w.heap.size bv (34 :: escL ((bl s).take i))) ∧ Hid (Below w.heap.size w wx)) (fun _ iv _ => s.size - (intOf iv).toNat)
  case atStart => exact ⟨0, rfl, Nat.zero_le _, HM1, HL1⟩
  case round =>
    clear HM1 HL1
    obtain ⟨i, rfl, hi, HM, HL⟩ := hrel
    by_cases hlt : i < s.size
    · have hlt' : (i : Int) < (s.size : Int) := by omega
      have hin : i < (bl s).length := by omega
      obtain ⟨c, hc⟩ : ∃ c : UInt8, c = s[i] := ⟨_, rfl⟩
      have hc' := hc.symm
      have HE : Hid (34 :: escL ((bl s).take (i + 1)) = 34 :: escL ((bl s).take i) ++ escU c) := by
        show _ = _
        rw [escL_take _ i hin, hc]
        rfl
      have hlen : (34 :: escL ((bl s).take i)).length ≤ 2 * i + 1 := by
        have := (escL_len ((bl s).take i)).2
        rw [List.length_take] at this
        simp only [List.length_cons]
        omega
      have hszr := HL.out.size
      clear hc
      by_cases h0 : c = 34
      · have he : escU c = [92, 34] := by rw [h0]; rfl
        rw [he] at HE
        clear he
        have e0 : ((c.toNat : Int) == 34) = true := by rw [h0]; rfl
        have hcv : (c.toNat : Int) = 34 := by rw [h0]; rfl
        clear h0
        have hk3 : (wr.alloc (.cells #[.int .u8 92, .int .u8 34] 5)).cell? ⟨wr.heap.size, 0, none⟩ = some (.int .u8 92) := (Row.new wr _ 5).cell 0
        have hk4 : (wr.alloc (.cells #[.int .u8 92, .int .u8 34] 5)).cell? ⟨wr.heap.size, 1, none⟩ = some (.int .u8 34) := (Row.new wr _ 5).cell 1
        have ho3 := run_two wr 92 34
        have HB3 : Hid (Buf (wr.alloc (.cells #[.int .u8 92, .int .u8 34] 5)) w.heap.size u3 (34 :: escL ((bl s).take i))) := HM.out.keep (below_new (Below.refl _ _) _)
        have HL4 : Hid (Below w.heap.size w (wr.alloc (.cells #[.int .u8 92, .int .u8 34] 5))) := below_new HL.out _
        have hsz3 : w.heap.size ≤ (wr.alloc (.cells #[.int .u8 92, .int .u8 34] 5)).heap.size := HL4.out.size
        clear HM HL
        go_wp2_with (refine ap_two rfl _ _ rfl w.heap.size _ _ rfl HB3.out 92 34 wr.heap.size 2 rfl hk3 hk4 (by omega) hsz3 ?_)
        intro v5 w5 hm5
        have HM5 : Hid (Buf w5 w.heap.size v5 (34 :: escL ((bl s).take (i + 1)))) := by
          show Buf _ _ _ _
          rw [HE.out]
          exact hm5.buf
        have HL5 : Hid (Below w.heap.size w w5) := HL4.out.trans (hm5.below HB3.out hsz3)
        clear hm5 HB3 HL4 hk3 hk4 ho3
        go_wp2
        go_roundw
        case rel => exact ⟨i + 1, by go_num, by omega, HM5, HL5⟩
        case measure => simp [intOf]; omega
      by_cases h1 : c = 92
      · have he : escU c = [92, 92] := by rw [h1]; rfl
        rw [he] at HE
        clear he
        have e1 : ((c.toNat : Int) == 92) = true := by rw [h1]; rfl
        have e0 : ((c.toNat : Int) == 34) = false := beq_false_of_ne (fun e => h0 (u8_of e))
        have hcv : (c.toNat : Int) = 92 := by rw [h1]; rfl
        clear h0 h1
        have hk3 : (wr.alloc (.cells #[.int .u8 92, .int .u8 92] 5)).cell? ⟨wr.heap.size, 0, none⟩ = some (.int .u8 92) := (Row.new wr _ 5).cell 0
        have hk4 : (wr.alloc (.cells #[.int .u8 92, .int .u8 92] 5)).cell? ⟨wr.heap.size, 1, none⟩ = some (.int .u8 92) := (Row.new wr _ 5).cell 1
        have ho3 := run_two wr 92 92
        have HB3 : Hid (Buf (wr.alloc (.cells #[.int .u8 92, .int .u8 92] 5)) w.heap.size u3 (34 :: escL ((bl s).take i))) := HM.out.keep (below_new (Below.refl _ _) _)
        have HL4 : Hid (Below w.heap.size w (wr.alloc (.cells #[.int .u8 92, .int .u8 92] 5))) := below_new HL.out _
        have hsz3 : w.heap.size ≤ (wr.alloc (.cells #[.int .u8 92, .int .u8 92] 5)).heap.size := HL4.out.size
        clear HM HL
        go_wp2_with (refine ap_two rfl _ _ rfl w.heap.size _ _ rfl HB3.out 92 92 wr.heap.size 2 rfl hk3 hk4 (by omega) hsz3 ?_)
        intro v5 w5 hm5
        have HM5 : Hid (Buf w5 w.heap.size v5 (34 :: escL ((bl s).take (i + 1)))) := by
          show Buf _ _ _ _
          rw [HE.out]
          exact hm5.buf
        have HL5 : Hid (Below w.heap.size w w5) := HL4.out.trans (hm5.below HB3.out hsz3)
        clear hm5 HB3 HL4 hk3 hk4 ho3
        go_wp2
        go_roundw
        case rel => exact ⟨i + 1, by go_num, by omega, HM5, HL5⟩
        case measure => simp [intOf]; omega
      by_cases h2 : c = 10
      · have he : escU c = [92, 110] := by rw [h2]; rfl
        rw [he] at HE
        clear he
        have e2 : ((c.toNat : Int) == 10) = true := by rw [h2]; rfl
        have e0 : ((c.toNat : Int) == 34) = false := beq_false_of_ne (fun e => h0 (u8_of e))
        have e1 : ((c.toNat : Int) == 92) = false := beq_false_of_ne (fun e => h1 (u8_of e))
        clear h0 h1 h2
        have hk3 : (wr.alloc (.cells #[.int .u8 92, .int .u8 110] 5)).cell? ⟨wr.heap.size, 0, none⟩ = some (.int .u8 92) := (Row.new wr _ 5).cell 0
        have hk4 : (wr.alloc (.cells #[.int .u8 92, .int .u8 110] 5)).cell? ⟨wr.heap.size, 1, none⟩ = some (.int .u8 110) := (Row.new wr _ 5).cell 1
        have ho3 := run_two wr 92 110
        have HB3 : Hid (Buf (wr.alloc (.cells #[.int .u8 92, .int .u8 110] 5)) w.heap.size u3 (34 :: escL ((bl s).take i))) := HM.out.keep (below_new (Below.refl _ _) _)
        have HL4 : Hid (Below w.heap.size w (wr.alloc (.cells #[.int .u8 92, .int .u8 110] 5))) := below_new HL.out _
        have hsz3 : w.heap.size ≤ (wr.alloc (.cells #[.int .u8 92, .int .u8 110] 5)).heap.size := HL4.out.size
        clear HM HL
        go_wp2_with (refine ap_two rfl _ _ rfl w.heap.size _ _ rfl HB3.out 92 110 wr.heap.size 2 rfl hk3 hk4 (by omega) hsz3 ?_)
        intro v5 w5 hm5
        have HM5 : Hid (Buf w5 w.heap.size v5 (34 :: escL ((bl s).take (i + 1)))) := by
          show Buf _ _ _ _
          rw [HE.out]
          exact hm5.buf
        have HL5 : Hid (Below w.heap.size w w5) := HL4.out.trans (hm5.below HB3.out hsz3)
        clear hm5 HB3 HL4 hk3 hk4 ho3
        go_wp2
        go_roundw
        case rel => exact ⟨i + 1, by go_num, by omega, HM5, HL5⟩
        case measure => simp [intOf]; omega
      by_cases h3 : c = 13
      · have he : escU c = [92, 114] := by rw [h3]; rfl
        rw [he] at HE
        clear he
        have e3 : ((c.toNat : Int) == 13) = true := by rw [h3]; rfl
        have e0 : ((c.toNat : Int) == 34) = false := beq_false_of_ne (fun e => h0 (u8_of e))
        have e1 : ((c.toNat : Int) == 92) = false := beq_false_of_ne (fun e => h1 (u8_of e))
        have e2 : ((c.toNat : Int) == 10) = false := beq_false_of_ne (fun e => h2 (u8_of e))
        clear h0 h1 h2 h3
        have hk3 : (wr.alloc (.cells #[.int .u8 92, .int .u8 114] 5)).cell? ⟨wr.heap.size, 0, none⟩ = some (.int .u8 92) := (Row.new wr _ 5).cell 0
        have hk4 : (wr.alloc (.cells #[.int .u8 92, .int .u8 114] 5)).cell? ⟨wr.heap.size, 1, none⟩ = some (.int .u8 114) := (Row.new wr _ 5).cell 1
        have ho3 := run_two wr 92 114
        have HB3 : Hid (Buf (wr.alloc (.cells #[.int .u8 92, .int .u8 114] 5)) w.heap.size u3 (34 :: escL ((bl s).take i))) := HM.out.keep (below_new (Below.refl _ _) _)
        have HL4 : Hid (Below w.heap.size w (wr.alloc (.cells #[.int .u8 92, .int .u8 114] 5))) := below_new HL.out _
        have hsz3 : w.heap.size ≤ (wr.alloc (.cells #[.int .u8 92, .int .u8 114] 5)).heap.size := HL4.out.size
        clear HM HL
        go_wp2_with (refine ap_two rfl _ _ rfl w.heap.size _ _ rfl HB3.out 92 114 wr.heap.size 2 rfl hk3 hk4 (by omega) hsz3 ?_)
        intro v5 w5 hm5
        have HM5 : Hid (Buf w5 w.heap.size v5 (34 :: escL ((bl s).take (i + 1)))) := by
          show Buf _ _ _ _
          rw [HE.out]
          exact hm5.buf
        have HL5 : Hid (Below w.heap.size w w5) := HL4.out.trans (hm5.below HB3.out hsz3)
        clear hm5 HB3 HL4 hk3 hk4 ho3
        go_wp2
        go_roundw
        case rel => exact ⟨i + 1, by go_num, by omega, HM5, HL5⟩
        case measure => simp [intOf]; omega
      by_cases h4 : c = 9
      · have he : escU c = [92, 116] := by rw [h4]; rfl
        rw [he] at HE
        clear he
        have e4 : ((c.toNat : Int) == 9) = true := by rw [h4]; rfl
        have e0 : ((c.toNat : Int) == 34) = false := beq_false_of_ne (fun e => h0 (u8_of e))
        have e1 : ((c.toNat : Int) == 92) = false := beq_false_of_ne (fun e => h1 (u8_of e))
        have e2 : ((c.toNat : Int) == 10) = false := beq_false_of_ne (fun e => h2 (u8_of e))
        have e3 : ((c.toNat : Int) == 13) = false := beq_false_of_ne (fun e => h3 (u8_of e))
        clear h0 h1 h2 h3 h4
        have hk3 : (wr.alloc (.cells #[.int .u8 92, .int .u8 116] 5)).cell? ⟨wr.heap.size, 0, none⟩ = some (.int .u8 92) := (Row.new wr _ 5).cell 0
        have hk4 : (wr.alloc (.cells #[.int .u8 92, .int .u8 116] 5)).cell? ⟨wr.heap.size, 1, none⟩ = some (.int .u8 116) := (Row.new wr _ 5).cell 1
        have ho3 := run_two wr 92 116
        have HB3 : Hid (Buf (wr.alloc (.cells #[.int .u8 92, .int .u8 116] 5)) w.heap.size u3 (34 :: escL ((bl s).take i))) := HM.out.keep (below_new (Below.refl _ _) _)
        have HL4 : Hid (Below w.heap.size w (wr.alloc (.cells #[.int .u8 92, .int .u8 116] 5))) := below_new HL.out _
        have hsz3 : w.heap.size ≤ (wr.alloc (.cells #[.int .u8 92, .int .u8 116] 5)).heap.size := HL4.out.size
        clear HM HL
        go_wp2_with (refine ap_two rfl _ _ rfl w.heap.size _ _ rfl HB3.out 92 116 wr.heap.size 2 rfl hk3 hk4 (by omega) hsz3 ?_)
        intro v5 w5 hm5
        have HM5 : Hid (Buf w5 w.heap.size v5 (34 :: escL ((bl s).take (i + 1)))) := by
          show Buf _ _ _ _
          rw [HE.out]
          exact hm5.buf
        have HL5 : Hid (Below w.heap.size w w5) := HL4.out.trans (hm5.below HB3.out hsz3)
        clear hm5 HB3 HL4 hk3 hk4 ho3
        go_wp2
        go_roundw
        case rel => exact ⟨i + 1, by go_num, by omega, HM5, HL5⟩
        case measure => simp [intOf]; omega
      have he : escU c = [c] := by
        unfold escU
        rcases signN_cases c with ⟨x, hx⟩ | ⟨hx, _⟩
        · exfalso
          unfold signN at hx
          simp [h0, h1, h2, h3, h4] at hx
        · rw [hx]
      rw [he] at HE
      have e0 : ((c.toNat : Int) == 34) = false := beq_false_of_ne (fun e => h0 (u8_of e))
      have e1 : ((c.toNat : Int) == 92) = false := beq_false_of_ne (fun e => h1 (u8_of e))
      have e2 : ((c.toNat : Int) == 10) = false := beq_false_of_ne (fun e => h2 (u8_of e))
      have e3 : ((c.toNat : Int) == 13) = false := beq_false_of_ne (fun e => h3 (u8_of e))
      have e4 : ((c.toNat : Int) == 9) = false := beq_false_of_ne (fun e => h4 (u8_of e))
      clear he h0 h1 h2 h3 h4
      have hk3 : (wr.alloc (.cells #[.int .u8 c.toNat] 5)).cell? ⟨wr.heap.size, 0, none⟩ = some (.int .u8 c.toNat) := (Row.new wr _ 5).cell 0
      have ho3 := run_one wr c
      have HB3 : Hid (Buf (wr.alloc (.cells #[.int .u8 c.toNat] 5)) w.heap.size u3 (34 :: escL ((bl s).take i))) := HM.out.keep (below_new (Below.refl _ _) _)
      have HL4 : Hid (Below w.heap.size w (wr.alloc (.cells #[.int .u8 c.toNat] 5))) := below_new HL.out _
      have hsz3 : w.heap.size ≤ (wr.alloc (.cells #[.int .u8 c.toNat] 5)).heap.size := HL4.out.size
      clear HM HL
      go_wp2_with (refine ap_one rfl _ _ rfl w.heap.size _ _ rfl HB3.out c wr.heap.size 1 rfl hk3 (by omega) hsz3 ?_)
      intro v5 w5 hm5
      have HM5 : Hid (Buf w5 w.heap.size v5 (34 :: escL ((bl s).take (i + 1)))) := by
        show Buf _ _ _ _
        rw [HE.out]
        exact hm5.buf
      have HL5 : Hid (Below w.heap.size w w5) := HL4.out.trans (hm5.below HB3.out hsz3)
      clear hm5 HB3 HL4 hk3 ho3
      go_wp2
      go_roundw
      case rel => exact ⟨i + 1, by go_num, by omega, HM5, HL5⟩
      case measure => simp [intOf]; omega
    · have hlt' : ¬ (i : Int) < (s.size : Int) := by omega
      obtain rfl : i = s.size := by omega
      have hlen : (34 :: escL ((bl s).take s.size)).length ≤ 2 * s.size + 1 := by
        have := (escL_len ((bl s).take s.size)).2
        rw [List.length_take] at this
        simp only [List.length_cons]
        omega
      have hk3 : (wr.alloc (.cells #[.int .u8 34] 5)).cell? ⟨wr.heap.size, 0, none⟩ = some (.int .u8 34) := (Row.new wr _ 5).cell 0
      have ho3 : (Instr.buildSlice 49 1 #[(0, .int .u8 34)]).run Tryd.prog wr = .ok (.slice (some ⟨wr.heap.size, 0, none⟩) 1 1) (wr.alloc (.cells #[.int .u8 34] 5)) := run_one wr 34
      have HB3 : Hid (Buf (wr.alloc (.cells #[.int .u8 34] 5)) w.heap.size u3 (34 :: escL ((bl s).take s.size))) := HM.out.keep (below_new (Below.refl _ _) _)
      have HL4 : Hid (Below w.heap.size w (wr.alloc (.cells #[.int .u8 34] 5))) := below_new HL.out _
      have hsz3 : w.heap.size ≤ (wr.alloc (.cells #[.int .u8 34] 5)).heap.size := HL4.out.size
      clear HM HL f0'
      go_wp2_with (refine ap_one rfl _ _ rfl w.heap.size _ _ rfl HB3.out 34 wr.heap.size 1 rfl hk3 (by omega) hsz3 ?_)
      intro v3 w3 hm3
      have hcv := conv_buf w3 w.heap.size v3 _ hm3.buf
      have HR : Hid (34 :: (escL ((bl s).take s.size) ++ [34]) = quoteU (bl s)) := by
        show _ = _
        rw [← hl, List.take_length]
        rfl
      rw [HR.out] at hcv
      have HL3 : Hid (Below w.heap.size w w3) := HL4.out.trans (hm3.below HB3.out hsz3)
      clear hm3 HB3 HL4 HR
      go_wp2
      go_ret
      exact ⟨rfl, HL3.out⟩
end Go.Proofs.YtmpgfepkdhjibaaDoor
