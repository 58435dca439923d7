/- My own work: the document's Str and all. -/
import Derived.Test.YtimiginpdkokiaaDoorEncN
namespace Go.Proofs.YtimiginpdkokiaaDoor
open Go.RowKit

section
variable {w : World} {ops : Array Oper} {rest : List Oper} {o : Oper} {a : Act} {Q : Exit → Act → World → Prop}
/-- 'append' of another row of bytes of one's own. -/
theorem ap_buf (hgd : o.guard = none) (s x : Operand) (ho : o.op = .call { callee := .builtin .append, args := #[s, x], argTypes := #[22, 22] })
    (B : Nat) (v : Value) (X : List UInt8) (hs : a.eval s = v) (hown : Buf w B v X) (B2 : Nat) (v2 : Value) (Y : List UInt8) (hx : a.eval x = v2) (h2 : Buf w B2 v2 Y) (hln : X.length + Y.length ≤ 140737488355328) (hB : B ≤ w.heap.size)
    (h : ∀ v' w', More B w v w' v' (X ++ Y) → wpList Tryd.prog ops Q rest (a.put o.dst v') w') : wpList Tryd.prog ops Q (o :: rest) a w := by
  have hS : Src Tryd.prog 1 22 v2 Y.length (u8s Y) w := by
    have h2' := h2
    obtain ⟨_, ⟨rfl, h0⟩ | ⟨g, cap, cur, rfl, _⟩⟩ := h2
    · have hY : Y = [] := List.eq_nil_of_length_eq_zero h0
      subst hY
      exact Src.ofNil w Tryd.underlying22 0
    · exact Src.ofSlice w Tryd.underlying22 _ _ _ _ (by rw [u8s_length, Nat.mul_one]) (h2'.cells (g := g) rfl) (u8s_one Y)
  exact ap_src hgd s x 22 ho B v X hs hown v2 hx Y hS hln hB h
end
theorem be8_buf (n : Nat) (w : World) (g B : Nat) (hB : B ≤ g) (h : w.rowIs g 5 8 (fun j => .int .u8 ((n : Int) / 2 ^ (8 * (8 - 1 - j)) % 256))) : Buf w B (.slice (some ⟨g, 0, none⟩) 8 8) (be8 n) := by
  have hc := be8_cells n w g h
  obtain ⟨c, h1, h2, h3⟩ := h
  refine ⟨by rw [u8s_length, Nat.mul_one], .inr ⟨g, 8, c, by rw [be8_length], hB, h1, by rw [be8_length]; exact Nat.le_refl _, by unfold maxLen; omega, by omega, ?_⟩⟩
  rw [be8_length]
  apply List.ext_getElem?
  intro i
  by_cases hi : i < 8
  · have hu : ∃ u, (u8s (be8 n))[i]? = some u := ⟨_, List.getElem?_eq_getElem (by rw [u8s_length, be8_length]; exact hi)⟩
    obtain ⟨u, hu⟩ := hu
    have ha : (⟨g, 0, none⟩ : Addr).add i = ⟨g, i, none⟩ := by unfold Addr.add; split <;> simp_all
    have h4 := hc i u hu
    rw [ha, cell_of_row w g i c 5 (0, 0) h1] at h4
    rw [hu, List.getElem?_take_of_lt (by omega), Array.getElem?_toList]
    exact h4
  · rw [List.getElem?_eq_none (by simp; omega), List.getElem?_eq_none (by rw [u8s_length, be8_length]; omega)]
theorem buf_slice {w : World} {B : Nat} {v : Value} {X : List UInt8} (h : Buf w B v X) : ∃ a c, v = .slice a X.length c := by
  obtain ⟨_, ⟨rfl, h0⟩ | ⟨g, cap, cur, rfl, _⟩⟩ := h
  · exact ⟨none, 0, by rw [h0]⟩
  · exact ⟨_, _, rfl⟩
theorem buf_base {w : World} {B B' : Nat} {v : Value} {X : List UInt8} (h : Buf w B v X) (hB : B' ≤ B) : Buf w B' v X := by
  obtain ⟨h1, h2 | ⟨g, cap, cur, e1, e2, e3⟩⟩ := h
  · exact ⟨h1, .inl h2⟩
  · exact ⟨h1, .inr ⟨g, cap, cur, e1, by omega, e3⟩⟩
def lenV : Value → Nat | .slice _ l _ => l | _ => 0
theorem fill_more (n j : Nat) (hj : j ≤ fillN n) : ((8 + n + j) % 8 = 0 ↔ j = fillN n) := by
  unfold fillN at *
  omega
set_option maxRecDepth 20000 in
set_option maxHeartbeats 2000000 in
theorem rstr_ok (s : ByteArray) (hs : s.size ≤ 140737488351232) (w : World) : Calls Tryd.prog 21 #[.string s] w fun e w' => ∃ v, e = .returned v ∧ Buf w' w.heap.size v (strU s) ∧ Below w.heap.size w w' := by
  have HBY : Hid (Calls Tryd.prog 36 #[.int .u64 (s.size : Nat), .int .i64 (8 : Nat)] w fun e w' => e = .returned (.tuple #[.slice (some ⟨w.heap.size, 0, none⟩) 8 8, .int .i64 0]) ∧ Below w.heap.size w w' ∧ w'.heap.size = w.heap.size + 1 ∧ w'.rowIs w.heap.size 5 8 (fun j => .int .u8 ((s.size : Int) / 2 ^ (8 * (8 - 1 - j)) % 256))) := S2.refBytes_any (s.size : Int) 8 w (by omega) (by omega) (by omega) (by omega)
  have hwr : IntKind.u64.wrap (s.size : Int) = s.size := by rw [IntKind.wrap_u64]; omega
  have hd : s.data.toList.length = s.size := by rw [Array.length_toList]; rfl
  have hfl := fillN_lt s.size
  go_enter Tryd.func21, Tryd.ntmps21
  go_wp2_with fail
  refine Calls.mono HBY.out ?_
  rintro e w2 ⟨rfl, hb2, hs2, hrow⟩
  have hBuf2 : Hid (Buf w2 w.heap.size (.slice (some ⟨w.heap.size, 0, none⟩) 8 8) (be8 s.size)) := be8_buf s.size w2 w.heap.size w.heap.size (Nat.le_refl _) hrow
  have HB2 : Hid (Below w.heap.size w w2) := hb2
  have hB2 : w.heap.size ≤ w2.heap.size := hb2.size
  have HL1 : Hid ((be8 s.size).length + s.size ≤ 140737488355328) := by show _ ≤ _; rw [be8_length]; omega
  clear hb2 hs2 hrow HBY
  go_wp2_with (refine ap_str rfl _ _ rfl w.heap.size _ (be8 s.size) rfl hBuf2.out s rfl HL1.out hB2 ?_)
  intro v3 w3 hm3
  have HM3 : Hid (Buf w3 w.heap.size v3 (be8 s.size ++ s.data.toList)) := hm3.buf
  have HB3 : Hid (Below w.heap.size w w3) := HB2.out.trans (hm3.below hBuf2.out hB2)
  clear hm3 hBuf2 HB2
  obtain ⟨wE, rfl⟩ : ∃ x, x = w3 := ⟨w3, rfl⟩
  go_wp2_with fail
  obtain ⟨a3, c3, rfl⟩ := buf_slice HM3.out
  have hlen3 : (be8 s.size ++ s.data.toList).length = 8 + s.size := by rw [List.length_append, be8_length, hd]
  rw [hlen3] at HM3 ⊢
  go_loopw [3] (fun bv wx => ∃ (j : Nat) (a : Option Addr) (l c : Nat), bv = .slice a l c ∧ Hid (l = 8 + s.size + j) ∧ j ≤ fillN s.size ∧ Hid (Buf wx w.heap.size bv (be8 s.size ++ s.data.toList ++ List.replicate j 0)) ∧ Hid (Below w.heap.size w wx)) (fun bv _ => fillN s.size - (lenV bv - (8 + s.size)))
  case atStart => exact ⟨0, a3, _, c3, rfl, by show _ = _; rfl, Nat.zero_le _, by show Buf _ _ _ _; rw [List.replicate_zero, List.append_nil]; exact HM3.out, HB3⟩
  case round =>
    obtain ⟨j, a4, l, c4, rfl, HLE, hj, HM, HB⟩ := hrel
    have hmore := fill_more s.size j hj
    rw [← HLE.out] at hmore
    have e0 : (l : Int).tmod 8 = ((l % 8 : Nat) : Int) := by rw [Int.tmod_eq_emod_of_nonneg (by omega)]; omega
    by_cases hjf : j = fillN s.size
    · have e1 : (l : Int).tmod 8 = 0 := by rw [e0, hmore.2 hjf]; rfl
      clear e0
      have HF : Hid (Buf wr w.heap.size (.slice a4 l c4) (strU s)) := by
        have h := HM.out
        rw [hjf] at h
        exact h
      clear HM hmore
      go_wp2
      go_ret
      exact ⟨_, rfl, HF.out, HB.out⟩
    · have hr0 : l % 8 ≠ 0 := fun h => hjf (hmore.1 h)
      obtain ⟨r, hr⟩ : ∃ r, r = l % 8 := ⟨_, rfl⟩
      rw [← hr] at e0 hr0
      have hr1 : ¬ (r : Int) = 0 := by omega
      clear hr hmore
      have hBr : w.heap.size ≤ wr.heap.size := HB.out.size
      have hba : Below wr.heap.size wr (wr.alloc (.cells #[.int .u8 0] 5)) := (Below.refl _ _).alloc (Nat.le_refl _) _
      have HBa : Hid (Below wr.heap.size wr (wr.alloc (.cells #[.int .u8 0] 5))) := hba
      have HMa : Hid (Buf (wr.alloc (.cells #[.int .u8 0] 5)) w.heap.size (.slice a4 l c4) (be8 s.size ++ s.data.toList ++ List.replicate j 0)) := HM.out.keep hba
      have HLa : Hid ((be8 s.size ++ s.data.toList ++ List.replicate j 0).length + [(0 : UInt8)].length ≤ 140737488355328) := by
        show _ ≤ _
        simp only [List.length_append, be8_length, hd, List.length_replicate, List.length_cons, List.length_nil]
        omega
      have hBa : w.heap.size ≤ (wr.alloc (.cells #[.int .u8 0] 5)).heap.size := by have := hba.size; omega
      have HC : Hid (∀ j u, (u8s [(0 : UInt8)])[j]? = some u → (wr.alloc (.cells #[.int .u8 0] 5)).cell? ((⟨wr.heap.size, 0, none⟩ : Addr).add j) = some u) := fun j u hj => by
        have hj0 : j = 0 := by
          have := (List.getElem?_eq_some_iff.1 hj).1
          simp [u8s] at this
          exact this
        subst hj0
        have ha : (⟨wr.heap.size, 0, none⟩ : Addr).add 0 = ⟨wr.heap.size, 0, none⟩ := by unfold Addr.add; split <;> simp_all
        rw [ha, (Row.new wr #[.int .u8 0] 5).cell 0]
        simpa [u8s] using hj
      clear hba
      go_wp2_with (first
        | refine wpList_buildFlat rfl 22 5 1 _ rfl .u8 [0] Tryd.underlying22 (by kernel_rfl) (by kernel_rfl) rfl (by omega) (by omega) rfl ?_
        | refine ap_slice rfl _ _ rfl w.heap.size _ _ rfl HMa.out ⟨wr.heap.size, 0, none⟩ 1 [0] rfl HC.out HLa.out hBa ?_)
      intro v5 w5 hm5
      have HB5 : Hid (Below w.heap.size w w5) := HB.out.trans ((HBa.out.mono hBr).trans (hm5.below HMa.out hBa))
      have HM5 : Hid (Buf w5 w.heap.size v5 (be8 s.size ++ s.data.toList ++ List.replicate (j + 1) 0)) := by
        have h := hm5.buf
        show Buf _ _ _ _
        rw [List.replicate_succ', ← List.append_assoc]
        simp only [List.append_assoc] at h ⊢
        exact h
      clear hm5 HMa HBa HC HM HB
      obtain ⟨a5, c5, rfl⟩ := buf_slice HM5.out
      have hl5 : (be8 s.size ++ s.data.toList ++ List.replicate (j + 1) (0 : UInt8)).length = 8 + s.size + (j + 1) := by simp only [List.length_append, be8_length, hd, List.length_replicate]
      rw [hl5] at HM5 ⊢
      have hle := HLE.out
      go_wp2
      go_roundw
      case rel => exact ⟨j + 1, a5, _, c5, rfl, by show _ = _; rfl, by omega, HM5, HB5⟩
      case measure => simp [lenV]; omega
/-- The document's all. -/
theorem rall_ok (l : List ByteArray) (g c : Nat) (w : World) (hc : l.length ≤ c) (hcm : c ≤ 9223372036854775807) (hT : Row w g (l.map Value.string).toArray 9) (hl : (strsU l).length ≤ 140737488351232) :
    Calls Tryd.prog 37 #[.slice (some ⟨g, 0, none⟩) l.length c] w fun e w' => ∃ v, e = .returned v ∧ Buf w' w.heap.size v (strsU l) ∧ Below w.heap.size w w' := by
  have HT : Hid (∀ wx, Below w.heap.size w wx → Row wx g (l.map Value.string).toArray 9) := fun wx hb => hT.below hb hT.lt
  have HL : Hid _ := hl
  clear hT hl
  go_enter Tryd.func37, Tryd.ntmps37
  go_wp2
  go_loopw [3, 4] (fun bv iv wx => ∃ (i : Nat), iv = .int .i64 i ∧ i ≤ l.length ∧ Hid (Buf wx w.heap.size bv (strsU (l.take i))) ∧ Hid (Below w.heap.size w wx)) (fun _ iv _ => l.length - (intOf iv).toNat)
  case atStart => exact ⟨0, rfl, Nat.zero_le _, by show Buf _ _ _ _; rw [List.take_zero]; exact World.ownsRow_nil w w.heap.size 5 1, Below.refl _ _⟩
  case round =>
    obtain ⟨i, rfl, hi, HM, HB⟩ := hrel
    by_cases hlt : i < l.length
    · have hlt' : (i : Int) < (l.length : Int) := by omega
      have hr := HT.out _ HB.out
      have c0 := (hr.cell i).trans (show _ = some (Value.string l[i]) by simp [hlt])
      clear hr
      obtain ⟨s, hs⟩ : ∃ s, s = l[i] := ⟨_, rfl⟩
      rw [← hs] at c0
      have HS : Hid (s = l[i]) := hs
      clear hs
      have hle := strsU_take_le l (i + 1)
      rw [strsU_take l i hlt, ← HS.out, List.length_append, strU_length] at hle
      have hl' := HL.out
      have HC : Hid (Calls Tryd.prog 21 #[.string s] wr fun e w' => ∃ v, e = .returned v ∧ Buf w' wr.heap.size v (strU s) ∧ Below wr.heap.size wr w') := rstr_ok s (by omega) wr
      have HLN : Hid ((strsU (l.take i)).length + (strU s).length ≤ 140737488355328) := by show _ ≤ _; rw [strU_length]; omega
      go_wp2_with fail
      refine Calls.mono HC.out ?_
      rintro e w2 ⟨v2, rfl, hb2, hbw⟩
      have HM2 : Hid (Buf w2 w.heap.size u3 (strsU (l.take i))) := HM.out.keep hbw
      have HV2 : Hid (Buf w2 wr.heap.size v2 (strU s)) := hb2
      have hBr : w.heap.size ≤ wr.heap.size := HB.out.size
      have HB2 : Hid (Below w.heap.size w w2) := HB.out.trans (hbw.mono hBr)
      have hB2 : w.heap.size ≤ w2.heap.size := HB2.out.size
      clear hb2 hbw HM HB HC c0 hle
      go_wp2_with (refine ap_buf rfl _ _ rfl w.heap.size _ _ rfl HM2.out wr.heap.size _ _ rfl HV2.out HLN.out hB2 ?_)
      intro v5 w5 hm5
      have HB5 : Hid (Below w.heap.size w w5) := HB2.out.trans (hm5.below HM2.out hB2)
      have HM5 : Hid (Buf w5 w.heap.size v5 (strsU (l.take (i + 1)))) := by
        show Buf _ _ _ _
        rw [strsU_take l i hlt, ← HS.out]
        exact hm5.buf
      clear hm5 HM2 HV2 HB2 HS HLN
      go_wp2
      go_roundw
      case rel => exact ⟨i + 1, by go_num, by omega, HM5, HB5⟩
      case measure => simp [intOf]; omega
    · have hlt' : ¬ (i : Int) < (l.length : Int) := by omega
      obtain rfl : i = l.length := by omega
      rw [List.take_length] at HM
      go_wp2
      go_ret
      exact ⟨_, rfl, HM.out, HB.out⟩
/-- all of texts that were just written as a list. -/
theorem rtexts_ok (w : World) (l : List ByteArray) (h10 : l.length ≤ 10) (hl : (strsU l).length ≤ 140737488351232) (g : Nat) (hg : g = w.heap.size) (m : Nat) (hm : m = l.length) (cs : Array Value) (hcs : cs = (l.map Value.string).toArray) :
    Calls Tryd.prog 37 #[.slice (some ⟨g, 0, none⟩) m m] (w.alloc (.cells cs 9)) fun e w' => ∃ v, e = .returned v ∧ Buf w' (w.heap.size + 1) v (strsU l) ∧ Below w.heap.size w w' := by
  subst hg hm hcs
  have hb : Below w.heap.size w (w.alloc (.cells (l.map Value.string).toArray 9)) := (Below.refl _ _).alloc (Nat.le_refl _) _
  have hsz : (w.alloc (.cells (l.map Value.string).toArray 9)).heap.size = w.heap.size + 1 := by simp
  refine (rall_ok l w.heap.size l.length _ (Nat.le_refl _) (by omega) (Row.new w _ 9) hl).mono ?_
  rintro e w' ⟨v', rfl, hm, hb'⟩
  rw [hsz] at hm hb'
  exact ⟨v', rfl, hm, hb.trans (hb'.mono (by omega))⟩
end Go.Proofs.YtimiginpdkokiaaDoor
