/- My own work: the law of Split by walk. My own work: the law of Make by walk. My own work: what is made is split; the law of both by walk. My own work: the law of Make and Split together by walk. My own work: the law of two paths by walk. -/
import Derived.Test.YtpkbfljoakodoaaDoorPRefS
import Derived.Test.YtpkbfljoakodoaaDoorPMake
import Derived.Test.YtpkbfljoakodoaaDoorPRefM
import Derived.Test.YtpkbfljoakodoaaDoorBase
import Derived.BigFrame
namespace Go.Proofs.YtpkbfljoakodoaaDoor.S2
open Go.RowKit Math

end Go.Proofs.YtpkbfljoakodoaaDoor.S2
namespace Go.Proofs.YtpkbfljoakodoaaDoor.S2
open Go.RowKit Math

theorem makeV_pair (kind : ByteArray) (f : Nat → Int) (name : ByteArray) : ∃ P c, makeV kind f name = .tuple #[.string P, .int .i64 c] := by
  unfold makeV
  split
  · exact ⟨_, _, rfl⟩
  · exact ⟨_, _, rfl⟩
end Go.Proofs.YtpkbfljoakodoaaDoor.S2
namespace Go.Proofs.YtpkbfljoakodoaaDoor.S2
open Go.RowKit Math

theorem cat_bl (a b : ByteArray) : bl (a ++ b) = bl a ++ bl b := by simp [bl, ByteArray.data_append]
theorem sgU_sg (v : Nat) (hv : v < 32) : isSg (UInt8.ofNat (sg v).toNat) = true := by
  have b := sg_lt v
  refine isSg_yes hv ?_
  rw [UInt8.toNat_ofNat_of_lt' (by simp; omega)]
  omega
theorem enc_signs (f : Nat → Int) (N : Nat) : signsB (bl (strOfNums (enc (bitAt 8 f) N))) = true := by
  unfold signsB
  rw [List.all_eq_true]
  intro x hx
  have e : bl (strOfNums (enc (bitAt 8 f) N)) = (enc (bitAt 8 f) N).map fun n => UInt8.ofNat n.toNat := strOfNums_data _
  rw [e] at hx
  obtain ⟨n, hn, rfl⟩ := List.mem_map.1 hx
  unfold enc at hn
  obtain ⟨j, _, rfl⟩ := List.mem_map.1 hn
  have hb := val_bd (bitAt 8 f) (bitAt_bd 8 f) (5 * j) 5
  exact sgU_sg _ (by omega)
theorem signE_size (kind : ByteArray) (f : Nat → Int) (name : ByteArray) : (signE' kind f name).size = 32 := by
  unfold signE'
  rw [strOfNums_size]
  simp [enc]
theorem path_size (kind : ByteArray) (f : Nat → Int) (name : ByteArray) : (pathE kind f name).size = 40 + name.size := by
  unfold pathE
  have e1 : (⟨#[45]⟩ : ByteArray).size = 1 := rfl
  have e2 : (⟨#[47, 115, 116, 111, 114, 101, 47]⟩ : ByteArray).size = 7 := rfl
  simp only [cat_size, signE_size, e1, e2]
theorem path_bl (kind : ByteArray) (f : Nat → Int) (name : ByteArray) : bl (pathE kind f name) = [47, 115, 116, 111, 114, 101, 47] ++ (bl (signE' kind f name) ++ (45 :: bl name)) := by
  unfold pathE
  rw [cat_bl, cat_bl, cat_bl]
  show [47, 115, 116, 111, 114, 101, 47] ++ bl (signE' kind f name) ++ [45] ++ bl name = _
  simp
theorem drop_len {a b : List UInt8} {n : Nat} (h : a.length = n) : (a ++ b).drop n = b := by rw [← h, List.drop_left]
theorem take_len {a b : List UInt8} {n : Nat} (h : a.length = n) : (a ++ b).take n = a := by rw [← h, List.take_left]
theorem path_parts (kind : ByteArray) (f : Nat → Int) (name : ByteArray) : (bl (pathE kind f name)).take 7 = bl STORE ∧ ((bl (pathE kind f name)).drop 7).take 32 = bl (signE' kind f name) ∧ (bl (pathE kind f name)).drop 39 = 45 :: bl name ∧ (bl (pathE kind f name)).drop 40 = bl name := by
  have hl : (bl (signE' kind f name)).length = 32 := by rw [bl_len, signE_size]
  have e := path_bl kind f name
  have d7 : (bl (pathE kind f name)).drop 7 = bl (signE' kind f name) ++ (45 :: bl name) := by rw [e]; exact drop_len rfl
  have d39 : (bl (pathE kind f name)).drop 39 = 45 :: bl name := by
    rw [show 39 = 7 + 32 from rfl, ← List.drop_drop, d7]
    exact drop_len hl
  refine ⟨by rw [e]; exact take_len rfl, by rw [d7]; exact take_len hl, d39, ?_⟩
  rw [show 40 = 39 + 1 from rfl, ← List.drop_drop, d39]
  rfl
/-- What is made is a path. -/
theorem path_split {kind : ByteArray} (f : Nat → Int) {name : ByteArray} (h : mayB kind name = true) : splitB (bl (pathE kind f name)) = true := by
  obtain ⟨p1, p2, p3, p4⟩ := path_parts kind f name
  have hn : nameB (bl name) = true := by unfold mayB at h; rw [Bool.and_eq_true] at h; exact h.1
  unfold splitB
  rw [p2, p3, p4, hn, show signsB (bl (signE' kind f name)) = true from enc_signs _ _, decide_eq_true (by rw [bl_len, path_size]; omega)]
  unfold preB
  rw [show (bl STORE).length = 7 from rfl, p1]
  simp
theorem path_signs (kind : ByteArray) (f : Nat → Int) (name : ByteArray) : (pathE kind f name).extract 7 39 = signE' kind f name := by
  apply bl_inj
  rw [bl_ex, ← (path_parts kind f name).2.1, List.drop_take]
theorem path_name (kind : ByteArray) (f : Nat → Int) (name : ByteArray) : (pathE kind f name).extract 40 (pathE kind f name).size = name := by
  apply bl_inj
  rw [ex_all, (path_parts kind f name).2.2.2]
theorem path_base (kind : ByteArray) (f : Nat → Int) (name : ByteArray) (h : mayB kind name = true) : baseE (pathE kind f name) = signE' kind f name ++ ⟨#[45]⟩ ++ name := by
  have hs := path_split f h
  unfold baseE
  rw [hs]
  show (pathE kind f name).extract 7 (pathE kind f name).size = _
  rw [← base_cat hs, path_signs, path_name]
theorem empty_base : baseE ⟨#[]⟩ = ⟨#[]⟩ := by
  unfold baseE
  rw [splitB_short (by decide)]
  rfl
end Go.Proofs.YtpkbfljoakodoaaDoor.S2
namespace Go.Proofs.YtpkbfljoakodoaaDoor.S2
open Go.RowKit Math

theorem makeV_no {kind name : ByteArray} (f : Nat → Int) (h : mayB kind name = false) : makeV kind f name = .tuple #[.string ⟨#[]⟩, .int .i64 17] := by unfold makeV; rw [h]; rfl
theorem makeV_yes {kind name : ByteArray} (f : Nat → Int) (h : mayB kind name = true) : makeV kind f name = .tuple #[.string (pathE kind f name), .int .i64 0] := by unfold makeV; rw [h]; rfl
/-- A name's first byte is a name. -/
theorem may_one {kind name : ByteArray} (h : mayB kind name = true) : mayB kind (name.extract 0 1) = true := by
  have hf := may_facts h
  unfold mayB at h ⊢
  rw [Bool.and_eq_true] at h ⊢
  refine ⟨?_, h.2⟩
  obtain ⟨h1, h2, h3, h4⟩ := nameB_facts h.1
  have e : bl (name.extract 0 1) = (bl name).take 1 := by rw [bl_ex, List.drop_zero]
  rw [e]
  match hb : bl name with
  | [] => rw [hb] at h1; exact absurd h1 (by simp)
  | c :: r =>
    rw [hb] at h3 h4
    show nameB [c] = true
    unfold nameB
    have hc : nameC c = true := by rw [List.all_cons, Bool.and_eq_true] at h4; exact h4.1
    have hne : [c].head? ≠ some 46 := h3
    rw [decide_eq_true ⟨Nat.le_refl _, by simp, hne⟩]
    simp [hc]
/-- A path of a name's first byte is the path just where the name is no longer. -/
theorem one_same {kind name : ByteArray} (f : Nat → Int) (h : mayB kind name = true) : ((pathE kind f (name.extract 0 1)).toList == (pathE kind f name).toList) = ((name.size : Int) == 1) := by
  have hf := may_facts h
  by_cases h1 : name.size = 1
  · have e : name.extract 0 1 = name := bl_inj (by rw [bl_ex, List.drop_zero, List.take_of_length_le (by rw [bl_len]; omega)])
    rw [e, h1]
    simp
  · have hne : ¬ (pathE kind f (name.extract 0 1)).toList = (pathE kind f name).toList := fun e => by
      have := congrArg List.length e
      rw [ByteArray.toList_eq, ByteArray.toList_eq] at this
      have this : (bl (pathE kind f (name.extract 0 1))).length = (bl (pathE kind f name)).length := this
      have e1 := bl_len (pathE kind f (name.extract 0 1))
      have e2 := bl_len (pathE kind f name)
      have e3 := ex_size name 0 1 (by omega)
      rw [path_size] at e1 e2
      omega
    rw [beq_false_of_ne hne, beq_false_of_ne (by omega)]
end Go.Proofs.YtpkbfljoakodoaaDoor.S2
namespace Go.Proofs.YtpkbfljoakodoaaDoor.S2
open Go.RowKit Math

/-- The two digests of sixty-four bytes. -/
def dg (h : Nat → Int) (o i : Nat) : Int := if i < 32 then h (o + i) else 0
theorem dg_past (h : Nat → Int) (o i : Nat) (hi : 32 ≤ i) : dg h o i = 0 := if_neg (by omega)
theorem dg_bd {h : Nat → Int} (hh : ∀ i, 0 ≤ h i ∧ h i < 256) (o i : Nat) : 0 ≤ dg h o i ∧ dg h o i < 256 := by
  unfold dg
  split
  · exact hh _
  · decide
theorem dg_range {w : World} {g : Nat} {h : Nat → Int} {t : TypeId} (hr : Row w g (arr h 64) t) (o : Nat) (ho : o + 32 ≤ 64) : w.rangeAt g o (arr (dg h o) 32).toList := fun j v hv => by
  have hj : j < 32 := by
    have := (List.getElem?_eq_some_iff.1 hv).1
    rw [Array.length_toList, arr_size] at this
    exact this
  rw [hr.cell, arr_at _ _ _ (by omega)]
  rw [Array.getElem?_toList, arr_at _ _ _ hj] at hv
  rw [← Option.some.inj hv]
  unfold dg
  rw [if_pos hj]
theorem same_dg {h : Nat → Int} (hs : same 32 (dg h 0) (dg h 32) = true) : dg h 0 = dg h 32 := by
  funext i
  by_cases hi : i < 32
  · exact (same_iff_all 32 _ _).1 hs i hi
  · rw [dg_past _ _ _ (by omega), dg_past _ _ _ (by omega)]
theorem beq_of {a b : ByteArray} (h : (a.toList == b.toList) = true) : a = b := by
  have e := beq_iff_eq.1 h
  rw [ByteArray.toList_eq, ByteArray.toList_eq] at e
  exact bl_inj e
theorem wpList_load_want {P : Program} {ops : Array Oper} {rest : List Oper} {op : Oper} {a : Act} {w : World} {Q : Exit → Act → World → Prop} (hw : Region.wanted op (yielded ops a.tmps) = true) (ty : TypeId) (x : Operand) (ho : op.op = .load ty x)
    (b o : Nat) (hx : a.eval x = .pointer (some ⟨b, o, none⟩)) (C : Array Value) (hl : (Instr.loadAt ty (.pointer (some ⟨b, o, none⟩))).run P w = .ok (.agg C) w)
    (h : wpList P ops Q rest (a.put op.dst (.agg C)) w) : wpList P ops Q (op :: rest) a w :=
  BigFrame.wpList_want hw fun K hK => by
    unfold Oper.wp execOp
    simp only [ho, hx, hl, Sem.run_bind, Sem.run_pure, Result.andThen_ok]
    exact hK _ _ h
theorem beq_self (a : ByteArray) : (a.toList == a.toList) = true := beq_iff_eq.2 rfl
end Go.Proofs.YtpkbfljoakodoaaDoor.S2
