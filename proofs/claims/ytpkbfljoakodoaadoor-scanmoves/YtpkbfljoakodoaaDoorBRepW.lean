/- My own work: the walk of bytes.Replace, all instances of thirty-two bytes by others. -/
import Derived.Test.YtpkbfljoakodoaaDoorBRep
namespace Go.Proofs.YtpkbfljoakodoaaDoor
open Go.RowKit
open S2 (bl bl_len bl_inj)

/-- What Replace leaves: new bytes. -/
def BrPost (w : World) (r : List UInt8) (e : Ending) (w' : World) : Prop :=
  ∃ (a : Option Addr) (b off c : Nat), e = .returned (.slice a r.length c) ∧ (0 < r.length → a = some ⟨b, off, none⟩) ∧ (∀ i (h : i < r.length), w'.cell? ⟨b, off + i, none⟩ = some (.int .u8 (r[i].toNat : Int))) ∧ (a = none → r.length = 0 ∧ c = 0) ∧ r.length ≤ c ∧ c ≤ maxLen ∧ (0 < r.length → w.heap.size ≤ b ∧ b < w'.heap.size) ∧ Below w.heap.size w w'
theorem cp_run (w : World) {o : Oper} {a : Act} {K : Act → World → Prop} {Q : Exit → Act → World → Prop} (dd : Option Tmp) (hdd : o.dst = dd) (d s : Operand) (t t' : TypeId)
    (ho : o.op = .call { callee := .builtin .copy, args := #[d, s], argTypes := #[t, t'] }) (v u : Value) (hd : a.eval d = v) (hs : a.eval s = u) (ty : TypeId) (hty : o.type = ty) {v' : Value} {w' : World}
    (hr : (Builtin.copy_ #[t, t'] ty #[v, u]).run Tryd.prog w = .ok v' w') (h : K (a.put dd v') w') : o.wp Tryd.prog a w K Q := by
  subst hdd hty
  exact Lib.wp_copy_run w d s t t' ho v u hd hs hr h
theorem buf_keep {w0 wr w3 : World} {h N : Nat} {acc : List UInt8} (hb : Lib.Buf w0 wr h N acc) (hx : Below wr.heap.size wr w3) (hlt : h < wr.heap.size) : Lib.Buf w0 w3 h N acc where
  below := hb.below.trans (hx.mono (by omega))
  there := fun j hj => by rw [World.cell?_of_block (w := wr) (hx.block h hlt)]; exact hb.there j hj
  free := fun j hj => by rw [World.frozen?_of_block (w := wr) (hx.block h hlt)]; exact hb.free j hj
  holds := fun j x hx' => by rw [World.cell?_of_block (w := wr) (hx.block h hlt)]; exact hb.holds j x hx'
  fits := hb.fits
theorem buf_lt {w0 wr : World} {h N : Nat} {acc : List UInt8} (hb : Lib.Buf w0 wr h N acc) (hN : 0 < N) : h < wr.heap.size := by
  obtain ⟨v, hv⟩ := Option.isSome_iff_exists.1 (hb.there 0 hN)
  exact World.block_lt_of_cell? _ _ hv
set_option maxRecDepth 20000 in
set_option maxHeartbeats 8000000 in
theorem breplace_ok (v1 v2 v3 : Value) (l old new : List UInt8) (w : World) (h1 : BsAt w v1 l) (h2 : BsAt w v2 old) (h3 : BsAt w v3 new) (ho : old.length = 32) (hn : new.length = 32) (hl : l.length < 4294967281) (hm : MxTab w) :
    Calls Tryd.prog 67 #[v1, v2, v3, .int .i64 (-1)] w (BrPost w (rpl old new l)) := by
  obtain ⟨a1, b1, o1, c1, rfl, ha1, hc1, hn1, hle1, hcp1⟩ := h1.ex
  obtain ⟨a2, b2, o2, c2, rfl, ha2, hc2, hn2, hle2, hcp2⟩ := h2.ex
  obtain ⟨a3, b3, o3, c3, rfl, ha3, hc3, hn3, hle3, hcp3⟩ := h3.ex
  have hct := cnt_ok h1 h2 ho hl hm
  obtain ⟨m, hmm⟩ : ∃ m, m = Lib.count l old := ⟨_, rfl⟩
  rw [← hmm] at hct
  have HMM : Hid _ := hmm
  obtain ⟨S, hS⟩ : ∃ S, l.length = S := ⟨_, rfl⟩
  have HS : Hid (S = l.length) := hS.symm
  have hmle : m ≤ S + 1 := by rw [hmm, ← hS]; exact Lib.count_le l old
  rw [hS, ho] at hct
  rw [hS, ho, hn]
  rw [hS] at h1 ha1 hn1 hle1 hl
  rw [ho] at h2 hle2
  rw [hn] at h3 hle3
  have HB1 : Hid (BsAt w (.slice a1 S c1) l) := h1
  have HB2 : Hid (BsAt w (.slice a2 32 c2) old) := h2
  have HB3 : Hid (BsAt w (.slice a3 32 c3) new) := h3
  have HA1 : Hid (0 < S → a1 = some ⟨b1, o1, none⟩) := ha1
  have HC1 : Hid (∀ i (h : i < l.length), w.cell? ⟨b1, o1 + i, none⟩ = some (.int .u8 (l[i].toNat : Int))) := hc1
  have HN1 : Hid (a1 = none → S = 0 ∧ c1 = 0) := hn1
  have HMX : Hid (MxTab w) := hm
  have HO : Hid (old.length = 32 ∧ new.length = 32) := ⟨ho, hn⟩
  clear h1 h2 h3 hm hmm hS ha1 hc1 hn1 ha2 hc2 hn2 ha3 hc3 hn3 ho hn
  unfold maxLen at hcp1 hcp2 hcp3
  by_cases hm0 : m = 0
  · subst hm0
    have HR : Hid (rpl old new l = l) := by
      show _ = _
      unfold rpl
      rw [← HMM.out]
      rfl
    rw [HR.out]
    have hby : (0 + S) * 1 ≤ 140737488355328 := by omega
    have HCL : Hid (∀ wx, Below w.heap.size w wx → ∀ j u, (l.map fun x => Value.int .u8 (x.toNat : Int))[j]? = some u → wx.cell? ⟨b1, o1 + j, none⟩ = some u) := fun wx hx j u hj => by
      have hj' : j < l.length := by simpa using (List.getElem?_eq_some_iff.1 hj).1
      have e := HC1.out j hj'
      rw [List.getElem?_map, List.getElem?_eq_getElem hj'] at hj
      rw [(World.cell?_of_block (w := w) (hx.block b1 (World.block_lt_of_cell? _ _ e))).trans e]
      exact hj
    have hll : (l.map fun x => Value.int .u8 (x.toNat : Int)).length = S * 1 := by rw [List.length_map, HS.out, Nat.mul_one]
    go_enter Tryd.func67, Tryd.ntmps67
    go_wp2_with (first
      | (go_at_call 89; refine hct.mono ?_; rintro e w1 ⟨rfl, hb1⟩; have HB1' : Hid (Below w.heap.size w w1) := hb1; have hsz := hb1.size; clear hct hb1)
      | (at_builtin; refine wpList_plain rfl fun K' hK' => ?_; refine wp_append_any (some 25) rfl _ _ 22 5 (.int .u8 0) 1 1 Tryd.underlying22 infoB5 rfl (by decide) rfl w.heap.size (.slice none 0 0) 0 [] rfl (World.ownsRow_nil ..) a1 b1 o1 S c1 (l.map fun x => Value.int .u8 (x.toNat : Int)) hll rfl HA1.out (HCL.out _ HB1'.out) (fun u hu => (by obtain ⟨x, _, rfl⟩ := List.mem_map.1 hu; rfl)) HN1.out (by unfold maxLen; omega) hby hsz (fun v5 w5 hO5 hG5 _ => hK' _ _ ?_)))
    have hb5 : Below w.heap.size w w5 := below_own (e := 5) (s := 1) (World.ownsRow_nil ..) HB1'.out hG5
    rw [Nat.zero_add, List.nil_append] at hO5
    have HF : Hid (BrPost w l (.returned v5) w5) := by
      rcases hO5.2 with ⟨rfl, h0⟩ | ⟨g, cap, cur, rfl, hb, hg, q1, q2, q3, q4⟩
      · have hl0 : l = [] := List.eq_nil_of_length_eq_zero (by rw [← HS.out]; exact h0)
        subst hl0
        exact ⟨none, 0, 0, 0, rfl, fun h => absurd h (by simp), fun i hi => absurd hi (by simp), fun _ => ⟨rfl, rfl⟩, Nat.le_refl _, Nat.zero_le _, fun h => absurd h (by simp), hb5⟩
      · refine ⟨some ⟨g, 0, none⟩, g, 0, cap, by rw [← HS.out], fun _ => rfl, fun i hi => ?_, (fun h => nomatch h), by rw [← HS.out]; exact q1, q2, fun _ => ⟨hb, (Array.getElem?_eq_some_iff.1 hg).1⟩, hb5⟩
        rw [Nat.zero_add, cell_of_row w5 g i cur 5 (0, 0) hg, ← Array.getElem?_toList]
        have e1 : cur.toList[i]? = (l.map fun x => Value.int .u8 (x.toNat : Int))[i]? := by
          rw [← q4, List.getElem?_take_of_lt (by rw [HS.out]; omega)]
        rw [e1]
        simp [hi]
    clear hO5 hG5 hb5
    go_wp2
    go_ret
    exact HF.out
  · have hne : old ≠ [] := fun e => by have ho := HO.out.1; rw [e] at ho; cases ho
    have hSp : 32 ≤ S := by
      obtain ⟨k, hk⟩ := Lib.index_of_count (s := l) (old := old) (by rw [← HMM.out]; omega)
      have := (index_at l old k hne hk).1
      rw [HO.out.1] at this
      rw [HS.out]
      omega
    obtain rfl := HA1.out (by omega)
    have hmb : ((m : Int) == 0) = false := by
      have : ¬ (m : Int) = 0 := by omega
      simpa using this
    have hmk := fun w => run_make_row' (P := Tryd.prog) 22 5 (.int .u8 0) 1 Tryd.underlying22 infoB5 rfl .i64 .i64 S (by omega) (by omega) w
    go_enter Tryd.func67, Tryd.ntmps67
    go_wp2_with (go_at_call 89; refine hct.mono ?_; rintro e w1 ⟨rfl, hb1⟩; have HB1' : Hid (Below w.heap.size w w1) := hb1; clear hct hb1)
    have hBuf0 := Lib.Buf.start w1 (madeCells #[.int .u8 0] S) 5 S 0 (by rw [size_madeCells]; omega)
    have HBUF : Hid (Lib.Buf w1 (w1.alloc (.cells (madeCells #[.int .u8 0] S) 5)) w1.heap.size S []) := hBuf0
    have HRPL : Hid (Lib.replaceK old new m l = rpl old new l ∧ Lib.count l old = m) := by
      refine ⟨?_, HMM.out.symm⟩
      unfold rpl
      rw [← HMM.out]
    have HX1 : Hid (BsAt w1 (.slice (some ⟨b1, o1, none⟩) S c1) l) := HB1.out.keep HB1'.out
    have HX2 : Hid (BsAt w1 (.slice a2 32 c2) old) := HB2.out.keep HB1'.out
    have HX3 : Hid (BsAt w1 (.slice a3 32 c3) new) := HB3.out.keep HB1'.out
    have HXM : Hid (MxTab w1) := HMX.out.keep HB1'.out
    have hi5 : (Tryd.prog.info? 5).map (·.size) = some 1 := by kernel_rfl
    have hz5 : ∀ w, (Go.sizeOf 5).run Tryd.prog w = .ok 1 w := fun w => by kernel_rfl
    clear hBuf0 HB1 HB2 HB3 HMX HC1 HA1 HN1 hmk
    generalize madeCells #[.int .u8 0] S = Z at *
    obtain ⟨W2, hW2⟩ : ∃ x, x = w1.alloc (.cells Z 5) := ⟨_, rfl⟩
    rw [← hW2] at HBUF ⊢
    clear hW2
    go_loopw [11, 12, 49] (fun wv sv iv wx => ∃ (i st : Nat) (acc : List UInt8), wv = .int .i64 st ∧ sv = .int .i64 st ∧ iv = .int .i64 i ∧ i ≤ m ∧ st ≤ S ∧ Hid (acc.length = st) ∧ Hid (Lib.Buf w1 wx w1.heap.size S acc) ∧ Hid (acc ++ Lib.replaceK old new (m - i) (l.drop st) = rpl old new l ∧ Lib.count (l.drop st) old = m - i)) (fun _ _ iv _ => m - (intOf iv).toNat)
    case atStart => exact ⟨0, 0, [], rfl, rfl, rfl, Nat.zero_le _, Nat.zero_le _, rfl, HBUF, HRPL⟩
    case round =>
      obtain ⟨i, st, acc, rfl, rfl, rfl, hi, hst, HAC, HBF, HIN⟩ := hrel
      have hbw : Below w1.heap.size w1 wr := HBF.out.below
      have hstl : st ≤ l.length := by rw [← HS.out]; exact hst
      by_cases hlt : i < m
      · have hlt' : (i : Int) < (m : Int) := by omega
        obtain ⟨k, hk⟩ := Lib.index_of_count (s := l.drop st) (old := old) (by rw [HIN.out.2]; omega)
        have hat := (index_at _ old k hne hk).1
        rw [List.length_drop, HO.out.1, ← HS.out] at hat
        have hkS : st + k + 32 ≤ S := by omega
        obtain ⟨vt, hvt, hvt'⟩ := bs_tail HX1.out st hstl
        obtain ⟨vm, hvm, hvm'⟩ := bs_mid HX1.out st k (by rw [← HS.out]; omega) (by rw [← HS.out]; omega)
        have hrt := hvt wr
        have hix := idx_ok (hvt' wr (HX1.out.keep hbw)) (HX2.out.keep hbw) HO.out.1 (by rw [List.length_drop, ← HS.out]; omega) (by rw [List.length_drop, ← HS.out]; omega) (HXM.out.keep hbw)
        rw [hk] at hix
        have HK : Hid (Lib.index (l.drop st) old = k) := hk
        have HVM : Hid (∀ w : World, (Instr.slice 22 (.slice (some ⟨b1, o1, none⟩) S c1) (some (.int .i64 (st : Int))) (some (.int .i64 ((st : Int) + (k : Int)))) none).run Tryd.prog w = .ok vm w) := hvm
        have HVM' : Hid (BsAt w1 vm ((l.drop st).take k)) := hvm' w1 HX1.out
        clear hvt hvt' hvm hvm' hk hat hbw
        go_wp2_with (go_at_call 90; refine hix.mono ?_; rintro e w3 ⟨rfl, hb3⟩; have HB3' : Hid (Below wr.heap.size wr w3) := hb3; clear hix hb3 hrt)
        have hltW : w1.heap.size < wr.heap.size := buf_lt HBF.out (by omega)
        have hB3 := buf_keep HBF.out HB3'.out hltW
        have hB3d := buf_keep hB3 ((Below.refl _ _).drew) (buf_lt hB3 (by omega))
        have hlk : ((l.drop st).take k).length = k := by rw [List.length_take, List.length_drop, ← HS.out]; omega
        obtain ⟨w4, hr4, hB4⟩ := Lib.copy_part (P := Tryd.prog) w1 w3.drew w1.heap.size S acc ((l.drop st).take k) vm 22 3 5 Tryd.underlying22 hi5 (Nat.le_refl _) hB3d HVM'.out.holds (by rw [hlk, HAC.out]; omega)
        have hal : (acc ++ (l.drop st).take k).length = st + k := by rw [List.length_append, HAC.out, hlk]
        rw [HAC.out, hlk] at hr4
        obtain ⟨w5, hr5, hB5⟩ := Lib.copy_part (P := Tryd.prog) w1 w4 w1.heap.size S (acc ++ (l.drop st).take k) new (.slice a3 32 c3) 22 3 5 Tryd.underlying22 hi5 (Nat.le_refl _) hB4 HX3.out.holds (by rw [hal, HO.out.2]; omega)
        rw [hal, HO.out.2] at hr5
        have HTL : Hid (∀ w : World, (Instr.slice 22 (.slice (some ⟨w1.heap.size, 0, none⟩) S S) (some (.int .i64 (st : Int))) none none).run Tryd.prog w = .ok (Lib.tailV w1.heap.size S st) w) := fun w => Lib.run_slice_tailV w 22 5 Tryd.underlying22 hz5 w1.heap.size S st hst
        have hrt5 : (Instr.slice 22 (.slice (some ⟨w1.heap.size, 0, none⟩) S S) (some (.int .i64 ((st : Int) + (k : Int)))) none none).run Tryd.prog w4 = .ok (Lib.tailV w1.heap.size S (st + k)) w4 := by
          have := Lib.run_slice_tailV (P := Tryd.prog) w4 22 5 Tryd.underlying22 hz5 w1.heap.size S (st + k) (by omega)
          rwa [Int.natCast_add] at this
        have HFIN : Hid (Lib.Buf w1 w5 w1.heap.size S (acc ++ (l.drop st).take k ++ new) ∧ (acc ++ (l.drop st).take k ++ new).length = st + k + 32 ∧ ((acc ++ (l.drop st).take k ++ new) ++ Lib.replaceK old new (m - (i + 1)) (l.drop (st + k + 32)) = rpl old new l ∧ Lib.count (l.drop (st + k + 32)) old = m - (i + 1))) := by
          have hdd : (l.drop st).drop (k + old.length) = l.drop (st + k + 32) := by rw [List.drop_drop, HO.out.1, Nat.add_assoc]
          refine ⟨hB5, by rw [List.length_append, hal, HO.out.2], ?_, ?_⟩
          · have h1 := HIN.out.1
            rw [show m - i = (m - (i + 1)) + 1 by omega, Lib.replaceK_hit old new _ _ k HK.out, hdd] at h1
            simpa [List.append_assoc] using h1
          · have h1 := Lib.count_hit hne HK.out
            rw [hdd, HIN.out.2] at h1
            omega
        have HR4 : Hid _ := hr4
        have HR5 : Hid _ := hr5
        clear hB3 hB3d hB4 hB5 hal hlk hr4 hr5 HBF HIN
        have hwr : IntKind.i64.wrap ((st : Int) + (k : Int)) = (st : Int) + (k : Int) := by rw [IntKind.wrap_i64]; omega
        refine wp_region_permA [(false, 0), (false, 1), (false, 2), (false, 3), (false, 4), (false, 5), (false, 6), (false, 7), (true, 8), (false, 9), (true, 10)] (fun _ => True) (by kernel_rfl) (by kernel_rfl) trivial ?_
        refine a_move (some 58) _ rfl rfl rfl (by rfl) ?_
        simp only [Act.put, List.setIfInBounds_toArray, List.set_cons_zero, List.set_cons_succ]
        refine a_move (some 59) _ rfl rfl rfl (by rfl) ?_
        simp only [Act.put, List.setIfInBounds_toArray, List.set_cons_zero, List.set_cons_succ]
        refine a_move (some 60) _ rfl rfl rfl (by rfl) ?_
        simp only [Act.put, List.setIfInBounds_toArray, List.set_cons_zero, List.set_cons_succ]
        refine a_value (some 61) ?_ rfl rfl (by rfl) (fun w hw => ?_) ?_
        rotate_left
        · have hv := HTL.out w
          go_simp
          with_reducible rfl
        simp only [Act.put, List.setIfInBounds_toArray, List.set_cons_zero, List.set_cons_succ]
        refine a_move (some 62) _ rfl rfl rfl (by rfl) ?_
        simp only [Act.put, List.setIfInBounds_toArray, List.set_cons_zero, List.set_cons_succ]
        refine a_move (some 63) _ rfl rfl rfl (by rfl) ?_
        simp only [Act.put, List.setIfInBounds_toArray, List.set_cons_zero, List.set_cons_succ]
        refine a_move (some 64) _ rfl rfl rfl (by rfl) ?_
        simp only [Act.put, List.setIfInBounds_toArray, List.set_cons_zero, List.set_cons_succ]
        refine a_value (some 65) ?_ rfl rfl (by rfl) (fun w hw => ?_) ?_
        rotate_left
        · have hv := HVM.out w
          go_simp
          with_reducible rfl
        simp only [Act.put, List.setIfInBounds_toArray, List.set_cons_zero, List.set_cons_succ]
        refine a_wp rfl (by rfl) (cp_run w3.drew (some 66) rfl _ _ 22 22 rfl _ _ rfl rfl 3 rfl HR4.out ⟨trivial, ?_⟩)
        simp only [Act.put, List.setIfInBounds_toArray, List.set_cons_zero, List.set_cons_succ]
        refine a_value (some 67) ?_ rfl rfl (by rfl) (fun w hw => ?_) ?_
        rotate_left
        · go_simp
          with_reducible rfl
        simp only [Act.put, List.setIfInBounds_toArray, List.set_cons_zero, List.set_cons_succ]
        refine a_alone (some 11) (.int .i64 ((st : Int) + (k : Int))) w4 rfl rfl (by rfl) (by go_simp) trivial ?_
        simp only [Act.put, List.setIfInBounds_toArray, List.set_cons_zero, List.set_cons_succ]
        refine a_done ?_
        try simp only [Exit.then]
        have hr5 := HR5.out
        go_wp2_with (at_builtin; refine Lib.wpList_copy_run _ rfl _ _ 22 22 rfl _ _ rfl rfl hr5 ?_; clear hr5 hrt5)
        go_roundw
        case rel => exact ⟨i + 1, st + k + 32, _, by go_num, by go_num, by go_num, by omega, by omega, HFIN.out.2.1, HFIN.out.1, HFIN.out.2.2⟩
        case measure => simp [intOf]; omega
      · have hie : i = m := by omega
        subst hie
        have hlt' : ¬ (i : Int) < (i : Int) := by omega
        obtain ⟨vt, hvt, hvt'⟩ := bs_tail HX1.out st hstl
        have HVT : Hid (∀ w : World, (Instr.slice 22 (.slice (some ⟨b1, o1, none⟩) S c1) (some (.int .i64 (st : Int))) none none).run Tryd.prog w = .ok vt w) := hvt
        have hltW : w1.heap.size < wr.heap.size := buf_lt HBF.out (by omega)
        have hBd := buf_keep HBF.out ((Below.refl _ _).drew) hltW
        have hlk : (l.drop st).length = S - st := by rw [List.length_drop, ← HS.out]
        obtain ⟨w4, hr4, hB4⟩ := Lib.copy_part (P := Tryd.prog) w1 wr.drew w1.heap.size S acc (l.drop st) vt 22 3 5 Tryd.underlying22 hi5 (Nat.le_refl _) hBd (hvt' w1 HX1.out).holds (by rw [hlk, HAC.out]; omega)
        rw [HAC.out, hlk] at hr4
        have HTL : Hid (∀ w : World, (Instr.slice 22 (.slice (some ⟨w1.heap.size, 0, none⟩) S S) (some (.int .i64 (st : Int))) none none).run Tryd.prog w = .ok (Lib.tailV w1.heap.size S st) w) := fun w => Lib.run_slice_tailV w 22 5 Tryd.underlying22 hz5 w1.heap.size S st hst
        have hrE : acc ++ l.drop st = rpl old new l := by
          have h1 := HIN.out.1
          rw [Nat.sub_self] at h1
          exact h1
        have hrl : (rpl old new l).length = S := by rw [← hrE, List.length_append, HAC.out, hlk]; omega
        have HFIN : Hid (BrPost w (rpl old new l) (.returned (.slice (some ⟨w1.heap.size, 0, none⟩) S S)) w4) := by
          rw [hrE] at hB4
          refine ⟨some ⟨w1.heap.size, 0, none⟩, w1.heap.size, 0, S, by rw [hrl], fun _ => rfl, fun i hi => ?_, (fun h => nomatch h), by rw [hrl]; exact Nat.le_refl _, by unfold maxLen; omega, fun _ => ⟨HB1'.out.size, buf_lt hB4 (by omega)⟩, HB1'.out.trans (hB4.below.mono HB1'.out.size)⟩
          rw [Nat.zero_add]
          exact hB4.holds i _ (List.getElem?_eq_getElem hi)
        obtain ⟨q, hq⟩ : ∃ q : Int, q = ((S - st : Nat) : Int) := ⟨_, rfl⟩
        rw [← hq] at hr4
        have hsq : (st : Int) + q = (S : Int) := by omega
        have hwr : IntKind.i64.wrap ((st : Int) + q) = (S : Int) := by rw [hsq, IntKind.wrap_i64]; omega
        have hwS : IntKind.i64.wrap (S : Int) = (S : Int) := by rw [IntKind.wrap_i64]; omega
        have HR4 : Hid _ := hr4
        clear hB4 hBd hr4 hrE hrl hlk hvt hvt' HBF HIN hq
        go_wp2_with fail
        refine wp_region_permA [(false, 0), (false, 1), (false, 2), (false, 3), (false, 4), (false, 5), (false, 6), (true, 7), (false, 8), (true, 9)] (fun _ => True) (by kernel_rfl) (by kernel_rfl) trivial ?_
        refine a_move (some 120) _ rfl rfl rfl (by rfl) ?_
        simp only [Act.put, List.setIfInBounds_toArray, List.set_cons_zero, List.set_cons_succ]
        refine a_move (some 121) _ rfl rfl rfl (by rfl) ?_
        simp only [Act.put, List.setIfInBounds_toArray, List.set_cons_zero, List.set_cons_succ]
        refine a_move (some 122) _ rfl rfl rfl (by rfl) ?_
        simp only [Act.put, List.setIfInBounds_toArray, List.set_cons_zero, List.set_cons_succ]
        refine a_value (some 123) ?_ rfl rfl (by rfl) (fun w hw => ?_) ?_
        rotate_left
        · have hv := HTL.out w
          go_simp
          with_reducible rfl
        simp only [Act.put, List.setIfInBounds_toArray, List.set_cons_zero, List.set_cons_succ]
        refine a_move (some 124) _ rfl rfl rfl (by rfl) ?_
        simp only [Act.put, List.setIfInBounds_toArray, List.set_cons_zero, List.set_cons_succ]
        refine a_move (some 125) _ rfl rfl rfl (by rfl) ?_
        simp only [Act.put, List.setIfInBounds_toArray, List.set_cons_zero, List.set_cons_succ]
        refine a_value (some 126) ?_ rfl rfl (by rfl) (fun w hw => ?_) ?_
        rotate_left
        · have hv := HVT.out w
          go_simp
          with_reducible rfl
        simp only [Act.put, List.setIfInBounds_toArray, List.set_cons_zero, List.set_cons_succ]
        refine a_wp rfl (by rfl) (cp_run wr.drew (some 127) rfl _ _ 22 22 rfl _ _ rfl rfl 3 rfl HR4.out ⟨trivial, ?_⟩)
        simp only [Act.put, List.setIfInBounds_toArray, List.set_cons_zero, List.set_cons_succ]
        refine a_value (some 128) ?_ rfl rfl (by rfl) (fun w hw => ?_) ?_
        rotate_left
        · go_simp
          with_reducible rfl
        simp only [Act.put, List.setIfInBounds_toArray, List.set_cons_zero, List.set_cons_succ]
        refine a_alone (some 11) (.int .i64 (S : Int)) w4 rfl rfl (by rfl) (by go_simp) trivial ?_
        simp only [Act.put, List.setIfInBounds_toArray, List.set_cons_zero, List.set_cons_succ]
        refine a_done ?_
        try simp only [Exit.then]
        clear hwr hsq hwS
        go_wp2
        go_ret
        exact HFIN.out
end Go.Proofs.YtpkbfljoakodoaaDoor
