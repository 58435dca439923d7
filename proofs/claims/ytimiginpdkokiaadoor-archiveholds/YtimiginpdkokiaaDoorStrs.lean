/- My own work: the walks of fillOf and appendStrings. -/
import Derived.Test.YtimiginpdkokiaaDoorEnc
import Derived.Test.YtimiginpdkokiaaDoorS2Numbers
namespace Go.Proofs.YtimiginpdkokiaaDoor
open Go.RowKit

theorem infoB : (Tryd.prog.info? 5).map (fun i => (i.zero, i.size, i.bytes)) = some (some (.int .u8 0), 1, 1) := by kernel_rfl
section
variable {w : World} {ops : Array Oper} {rest : List Oper} {o : Oper} {a : Act} {Q : Exit → Act → World → Prop}
theorem ap_src (hgd : o.guard = none) (s x : Operand) (tx : TypeId) (ho : o.op = .call { callee := .builtin .append, args := #[s, x], argTypes := #[22, tx] })
    (B : Nat) (v : Value) (X : List UInt8) (hs : a.eval s = v) (hown : Buf w B v X) (xv : Value) (hx : a.eval x = xv) (Y : List UInt8) (hsrc : Src Tryd.prog 1 tx xv Y.length (u8s Y) w) (hln : X.length + Y.length ≤ 140737488355328) (hB : B ≤ w.heap.size)
    (h : ∀ v' w', More B w v w' v' (X ++ Y) → wpList Tryd.prog ops Q rest (a.put o.dst v') w') : wpList Tryd.prog ops Q (o :: rest) a w := by
  obtain ⟨i0, hi, hz0, hz1, hz2⟩ := info_parts infoB
  obtain ⟨v', w', hr, hm⟩ := run_append_src (P := Tryd.prog) w B 22 tx o.type i0 Tryd.underlying22 hi hz0 hz1 hz2 v X hown xv Y hsrc hln hB
  exact Lib.wpList_append_run w hgd s x 22 tx ho v xv hs hx v' w' hr (h v' w' hm)
theorem ap_slice (hgd : o.guard = none) (s x : Operand) (ho : o.op = .call { callee := .builtin .append, args := #[s, x], argTypes := #[22, 22] })
    (B : Nat) (v : Value) (X : List UInt8) (hs : a.eval s = v) (hown : Buf w B v X) (ad : Addr) (c : Nat) (Y : List UInt8) (hx : a.eval x = .slice (some ad) Y.length c) (hY : ∀ j u, (u8s Y)[j]? = some u → w.cell? (ad.add j) = some u) (hln : X.length + Y.length ≤ 140737488355328) (hB : B ≤ w.heap.size)
    (h : ∀ v' w', More B w v w' v' (X ++ Y) → wpList Tryd.prog ops Q rest (a.put o.dst v') w') : wpList Tryd.prog ops Q (o :: rest) a w :=
  ap_src hgd s x 22 ho B v X hs hown _ hx Y (Src.ofSlice w Tryd.underlying22 ad Y.length c (u8s Y) (by rw [u8s_length, Nat.mul_one]) hY (u8s_one Y)) hln hB h
theorem ap_str (hgd : o.guard = none) (s x : Operand) (ho : o.op = .call { callee := .builtin .append, args := #[s, x], argTypes := #[22, 9] })
    (B : Nat) (v : Value) (X : List UInt8) (hs : a.eval s = v) (hown : Buf w B v X) (t : ByteArray) (hx : a.eval x = .string t) (hln : X.length + t.size ≤ 140737488355328) (hB : B ≤ w.heap.size)
    (h : ∀ v' w', More B w v w' v' (X ++ t.data.toList) → wpList Tryd.prog ops Q rest (a.put o.dst v') w') : wpList Tryd.prog ops Q (o :: rest) a w := by
  have hl : t.data.toList.length = t.size := by rw [Array.length_toList]; rfl
  have hS : Src Tryd.prog 1 9 (.string t) t.data.toList.length (u8s t.data.toList) w := by rw [hl]; exact Src.ofString w Tryd.underlying9 t
  exact ap_src hgd s x 9 ho B v X hs hown _ hx t.data.toList hS (by rw [hl]; exact hln) hB h
theorem ap_zeros (hgd : o.guard = none) (s x : Operand) (ho : o.op = .call { callee := .builtin .append, args := #[s, x], argTypes := #[22, 3] })
    (B : Nat) (v : Value) (X : List UInt8) (hs : a.eval s = v) (hown : Buf w B v X) (n : Nat) (hn : n ≤ 8) (hx : a.eval x = .int .i64 n) (hln : X.length + n ≤ 140737488355328) (hB : B ≤ w.heap.size)
    (h : ∀ v' w', More B w v w' v' (X ++ List.replicate n 0) → wpList Tryd.prog ops Q rest (a.put o.dst v') w') : wpList Tryd.prog ops Q (o :: rest) a w := by
  obtain ⟨i0, hi, hz0, hz1, hz2⟩ := info_parts infoB
  have hl : (zs n).data.toList = List.replicate n 0 := by simp [zs]
  have hS : Src Tryd.prog 1 9 (.string (zs n)) (List.replicate n (0 : UInt8)).length (u8s (List.replicate n 0)) w := by
    have := Src.ofString (P := Tryd.prog) w Tryd.underlying9 (zs n)
    rw [zs_size, byteCells, hl] at this
    rw [List.length_replicate]
    exact this
  obtain ⟨v', w', hr, hm⟩ := run_append_src (P := Tryd.prog) w B 22 9 o.type i0 Tryd.underlying22 hi hz0 hz1 hz2 v X hown (.string (zs n)) (List.replicate n 0) hS (by rw [List.length_replicate]; exact hln) hB
  have hv : ∃ base l c, v = .slice base l c ∧ l = X.length := by
    rcases hown.2 with ⟨rfl, h0⟩ | ⟨g, cap, cur, rfl, _⟩
    · exact ⟨_, _, _, rfl, h0.symm⟩
    · exact ⟨_, _, _, rfl, rfl⟩
  obtain ⟨base, l, c, rfl, rfl⟩ := hv
  rw [← run_append_zeros (P := Tryd.prog) w 22 9 3 o.type .i64 i0 Tryd.underlying22 Tryd.underlying9 Tryd.underlying3 hi hz0 hz1 hz2 base X.length c n hn hln] at hr
  exact Lib.wpList_append_run w hgd s x 22 3 ho _ _ hs hx v' w' hr (h v' w' hm)
end
theorem fillOf_ok (n : Nat) (w : World) (hn : n ≤ 9223372036854775807) : Calls Tryd.prog 33 #[.int .i64 n] w fun e w' => e = .returned (.int .i64 (fillN n : Nat)) ∧ w' = w := by
  have e1 : (n : Int).tmod 8 = ((n % 8 : Nat) : Int) := by rw [Int.tmod_eq_emod_of_nonneg (by omega)]; omega
  have hlt : n % 8 < 8 := Nat.mod_lt _ (by omega)
  obtain ⟨r, hr⟩ : ∃ r, r = n % 8 := ⟨_, rfl⟩
  have hf : fillN n = (8 - r) % 8 := by rw [hr]; rfl
  rw [← hr] at e1 hlt
  have e2 : ((8 : Int) - (r : Int)).tmod 8 = (((8 - r) % 8 : Nat) : Int) := by rw [Int.tmod_eq_emod_of_nonneg (by omega)]; omega
  rw [hf]
  clear hr hf
  go_enter Tryd.func33, Tryd.ntmps33
  go_wp2
  go_ret
  refine ⟨?_, rfl⟩
  simp
theorem strsU_take (l : List ByteArray) (i : Nat) (h : i < l.length) : strsU (l.take (i + 1)) = strsU (l.take i) ++ strU l[i] := by
  rw [List.take_succ_eq_append_getElem h, strsU_append]
  simp [strsU]
theorem strsU_take_le (l : List ByteArray) (i : Nat) : (strsU (l.take i)).length ≤ (strsU l).length := by
  have := congrArg (fun x => (strsU x).length) (List.take_append_drop i l)
  simp only [strsU_append, List.length_append] at this
  omega
theorem be8_cells (n : Nat) (w : World) (g : Nat) (h : w.rowIs g 5 8 (fun j => .int .u8 ((n : Int) / 2 ^ (8 * (8 - 1 - j)) % 256))) : ∀ j u, (u8s (be8 n))[j]? = some u → w.cell? ((⟨g, 0, none⟩ : Addr).add j) = some u := fun j u hj => by
  have hjl : j < 8 := by
    have := (List.getElem?_eq_some_iff.1 hj).1
    rw [u8s_length, be8_length] at this
    exact this
  have hc := h.cell (i := j) hjl
  have ha : (⟨g, 0, none⟩ : Addr).add j = ⟨g, j, none⟩ := by unfold Addr.add; split <;> simp_all
  rw [ha, hc, ← hj]
  simp only [u8s, be8, List.getElem?_map, List.getElem?_range hjl, Option.map_some]
  congr 2
  have e : (8 - 1 - j) = 7 - j := by omega
  rw [e]
  have h1 : n / 2 ^ (8 * (7 - j)) % 256 < 256 := Nat.mod_lt _ (by omega)
  rw [UInt8.toNat_ofNat', Nat.mod_eq_of_lt (by simpa using h1)]
  rw [Int.natCast_emod, Int.natCast_ediv, Int.natCast_pow]
  rfl
set_option maxRecDepth 20000 in
set_option maxHeartbeats 2000000 in
theorem appendStrings_ok (B : Nat) (v : Value) (X : List UInt8) (w : World) (hX : Buf w B v X) (hB : B ≤ w.heap.size) (l : List ByteArray) (g c : Nat) (hc : l.length ≤ c) (hcm : c ≤ 9223372036854775807) (hT : Row w g (l.map Value.string).toArray 9) (hl : X.length + (strsU l).length ≤ 140737488355328) :
    Calls Tryd.prog 19 #[v, .slice (some ⟨g, 0, none⟩) l.length c] w fun e w' => ∃ v', e = .returned v' ∧ More B w v w' v' (X ++ strsU l) := by
  have HT : Hid (∀ wx v' Z, More B w v wx v' Z → Row wx g (l.map Value.string).toArray 9) := fun wx v' Z h => h.row hX hT (by decide)
  have HX : Hid (Buf w B v X) := hX
  have HL : Hid _ := hl
  clear hT hX hl
  go_enter Tryd.func19, Tryd.ntmps19
  go_wp2
  go_loopw [0, 11] (fun bv iv wx => ∃ (i : Nat) (v' : Value), bv = v' ∧ iv = .int .i64 i ∧ i ≤ l.length ∧ Hid (More B w v wx v' (X ++ strsU (l.take i)))) (fun _ iv _ => l.length - (intOf iv).toNat)
  case atStart => exact ⟨0, v, rfl, rfl, Nat.zero_le _, by show More B w v w v _; simpa [strsU] using More.refl HX.out⟩
  case round =>
    obtain ⟨i, v', rfl, rfl, hi, HM⟩ := hrel
    by_cases hlt : i < l.length
    · have hlt' : (i : Int) < (l.length : Int) := by omega
      have hr := HT.out _ _ _ HM.out
      have c0 := (hr.cell i).trans (show _ = some (Value.string l[i]) by simp [hlt])
      clear hr
      obtain ⟨s, hs⟩ : ∃ s, s = l[i] := ⟨_, rfl⟩
      rw [← hs] at c0
      have HS : Hid (s = l[i]) := hs
      clear hs
      have hle := strsU_take_le l (i + 1)
      rw [strsU_take l i hlt, ← HS.out, List.length_append, strU_length] at hle
      have hl' := HL.out
      have hfl := fillN_lt s.size
      have HBY : Hid (Calls Tryd.prog 32 #[.int .u64 (s.size : Nat), .int .i64 (8 : Nat)] wr fun e w' => e = .returned (.tuple #[.slice (some ⟨wr.heap.size, 0, none⟩) 8 8, .int .i64 0]) ∧ Below wr.heap.size wr w' ∧ w'.heap.size = wr.heap.size + 1 ∧ w'.rowIs wr.heap.size 5 8 (fun j => .int .u8 ((s.size : Int) / 2 ^ (8 * (8 - 1 - j)) % 256))) := S2.bytes_any (s.size : Int) 8 wr (by omega) (by omega)
      have hsz : s.size ≤ 9223372036854775807 := by omega
      have hwr : IntKind.u64.wrap (s.size : Int) = s.size := by rw [IntKind.wrap_u64]; omega
      go_wp2_with fail
      refine Calls.mono HBY.out ?_
      rintro e w2 ⟨rfl, hb2, hs2, hrow⟩
      have hBw : B ≤ wr.heap.size := by have := HM.out.grown.size; omega
      have hB2 : B ≤ w2.heap.size := by have := hb2.size; omega
      have hBuf2 : Hid (Buf w2 B u0 (X ++ strsU (l.take i))) := HM.out.buf.keep hb2
      have HC8 : Hid _ := be8_cells s.size w2 wr.heap.size hrow
      have hl1 : (X ++ strsU (l.take i)).length + (be8 s.size).length ≤ 140737488355328 := by rw [List.length_append, be8_length]; omega
      have HB2 : Hid (Below wr.heap.size wr w2) := hb2
      have h8 : (be8 s.size).length = 8 := be8_length _
      clear hb2 hs2 hrow HBY c0
      go_wp2_with (refine ap_slice rfl _ _ rfl B _ _ rfl hBuf2.out ⟨wr.heap.size, 0, none⟩ 8 (be8 s.size) (by rw [h8]; rfl) HC8.out hl1 hB2 ?_)
      intro v1 w3 hm1
      have HM1 : Hid (More B w2 u0 w3 v1 (X ++ strsU (l.take i) ++ be8 s.size)) := by show More _ _ _ _ _ _; simp only [List.append_assoc]; exact hm1
      have hB3 : B ≤ w3.heap.size := by have := hm1.grown.size; omega
      have hl2 : (X ++ strsU (l.take i) ++ be8 s.size).length + s.size ≤ 140737488355328 := by rw [List.length_append, List.length_append, be8_length]; omega
      clear hm1 HC8 hBuf2
      go_wp2_with (refine ap_str rfl _ _ rfl B _ _ rfl HM1.out.buf s rfl hl2 hB3 ?_)
      intro v2 w4 hm2
      have HM2 : Hid (More B w3 v1 w4 v2 (X ++ strsU (l.take i) ++ be8 s.size ++ s.data.toList)) := by show More _ _ _ _ _ _; simp only [List.append_assoc]; exact hm2
      have hB4 : B ≤ w4.heap.size := by have := hm2.grown.size; omega
      have hl3 : (X ++ strsU (l.take i) ++ be8 s.size ++ s.data.toList).length + fillN s.size ≤ 140737488355328 := by
        have hd : s.data.toList.length = s.size := by rw [Array.length_toList]; rfl
        rw [List.length_append, List.length_append, List.length_append, be8_length, hd]; omega
      clear hm2
      go_wp2_with fail
      refine Calls.mono (fillOf_ok s.size w4 hsz) ?_
      rintro e w5 ⟨rfl, rfl⟩
      go_wp2_with (refine ap_zeros rfl _ _ rfl B _ _ rfl HM2.out.buf (fillN s.size) (by omega) rfl hl3 hB4 ?_)
      intro v3 w6 hm3
      have HM3 : Hid (More B w v w6 v3 (X ++ strsU (l.take (i + 1)))) := by
        have h := HM.out.trans (More.after HB2.out (HM1.out.trans (HM2.out.trans hm3)))
        rw [strsU_take l i hlt, ← HS.out]
        unfold strU
        simp only [List.append_assoc] at h ⊢
        exact h
      clear hm3 HM HM1 HM2 HB2
      go_wp2
      go_roundw
      case rel => exact ⟨i + 1, v3, rfl, by go_num, by omega, HM3⟩
      case measure => simp [intOf]; omega
    · have hlt' : ¬ (i : Int) < (l.length : Int) := by omega
      obtain rfl : i = l.length := by omega
      rw [List.take_length] at HM
      go_wp2
      go_ret
      exact ⟨_, rfl, HM.out⟩
end Go.Proofs.YtimiginpdkokiaaDoor
