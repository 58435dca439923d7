/- My own work: what Right tells where the sources are others; Put of a derivation that may not be. -/
import Derived.Test.YtmpgfepkdhjibaaDoorRt2
import Derived.Test.YtmpgfepkdhjibaaDoorOwnD
namespace Go.Proofs.YtmpgfepkdhjibaaDoor
open Go.RowKit

theorem longI_le (K : Nat) : ∀ (l : List (ByteArray × List ByteArray)) (m : Nat), longI m l ≤ K ↔ m ≤ K ∧ ∀ x ∈ l, x.2.length ≤ K
  | [], m => by simp [longI]
  | x :: l, m => by
    have h := longI_le K l (max m x.2.length)
    have e : longI m (x :: l) = longI (max m x.2.length) l := rfl
    rw [e, h]
    simp only [List.mem_cons, forall_eq_or_imp]
    constructor
    · rintro ⟨h1, h2⟩
      exact ⟨by omega, by omega, h2⟩
    · rintro ⟨h1, h2, h3⟩
      exact ⟨by omega, h3⟩
theorem rightE_srcs (d : Dv) (S : List ByteArray) (h : rightE d = 0) (hS : S.length ≤ 1024) : rightE { d with srcs := S } = if risesB S then 0 else 10 := by
  rcases rightE_cases d with ⟨_, h2⟩ | ⟨_, _, h2⟩ | ⟨h1, h2, h3, h4⟩
  · omega
  · omega
  have hl : ¬ 1024 < longN { d with srcs := S } := by
    have := (longI_le 1024 d.ins _).1 (Nat.not_lt.1 h1)
    have h5 := (longI_le 1024 d.ins (max (max (max (max d.outs.length d.ins.length) S.length) d.args.length) d.env.length)).2 ⟨by omega, this.2⟩
    exact Nat.not_lt.2 h5
  have hn : d.ins.any (fun x => decide (x.2.length = 0)) = false := by
    rw [h] at h4
    cases hb : d.ins.any (fun x => decide (x.2.length = 0)) with
    | false => rfl
    | true => rw [hb] at h4; simp at h4
  have hr : allRiseB { d with srcs := S } = risesB S := by
    unfold allRiseB at h3 ⊢
    simp only [Bool.and_eq_true] at h3
    obtain ⟨⟨⟨⟨a1, a2⟩, a3⟩, _⟩, a5⟩ := h3
    simp only [a1, a2, a3, a5, Bool.true_and, Bool.and_true]
  unfold rightE
  rw [if_neg hl, hr]
  cases hb : risesB S with
  | true => simp only [h2, hn]; simp
  | false => simp
/-- The texts sa, sb, .. -/
def srcB (i : Nat) : ByteArray := ⟨#[115, UInt8.ofNat (97 + i)]⟩
def srcL (n : Nat) : List ByteArray := (List.range n).map srcB
theorem srcL_len (n : Nat) : (srcL n).length = n := by simp [srcL]
theorem srcL_at (n i : Nat) (h : i < n) : (srcL n).getD i ⟨#[]⟩ = srcB i := by simp [srcL, List.getD, h]
theorem le_src (i : Nat) (h : i ≤ 8) : leB (srcB (i + 1)) (srcB i) = false ∧ leB (srcB i) (srcB (i + 1)) = true := by
  unfold leB
  simp only [ByteArray.toList_eq]
  match i, h with
  | 0, _ => decide
  | 1, _ => decide
  | 2, _ => decide
  | 3, _ => decide
  | 4, _ => decide
  | 5, _ => decide
  | 6, _ => decide
  | 7, _ => decide
  | 8, _ => decide
theorem le_self (a : ByteArray) : leB a a = true := by
  unfold leB
  simp
theorem srcL_rises (n : Nat) (h : n ≤ 9) : risesB (srcL n) = true := risesB_yes _ (fun i h0 hi => by
  rw [srcL_len] at hi
  rw [srcL_at n i hi, srcL_at n (i - 1) (by omega)]
  have := (le_src (i - 1) (by omega)).1
  rwa [Nat.sub_add_cancel h0] at this)
/-- The last two changed about; then the last but one told twice. -/
def swapL (n : Nat) : List ByteArray := ((srcL n).set (n - 1) (srcB (n - 2))).set (n - 2) (srcB (n - 1))
def dupL (n : Nat) : List ByteArray := (swapL n).set (n - 1) (srcB (n - 1))
theorem swapL_len (n : Nat) : (swapL n).length = n := by simp [swapL, srcL_len]
theorem dupL_len (n : Nat) : (dupL n).length = n := by simp [dupL, swapL_len]
theorem swapL_no (n : Nat) (h2 : 2 ≤ n) (h9 : n ≤ 9) : risesB (swapL n) = false := by
  refine risesB_no _ (n - 1) (by omega) (by rw [swapL_len]; omega) ?_
  have e1 : (swapL n).getD (n - 1) ⟨#[]⟩ = srcB (n - 2) := by
    unfold swapL
    rw [List.getD, List.getElem?_set_ne (by omega), List.getElem?_set_self (by rw [srcL_len]; omega)]
    rfl
  have e2 : (swapL n).getD (n - 1 - 1) ⟨#[]⟩ = srcB (n - 1) := by
    unfold swapL
    rw [show n - 1 - 1 = n - 2 by omega, List.getD, List.getElem?_set_self (by rw [List.length_set, srcL_len]; omega)]
    rfl
  rw [e1, e2]
  have := (le_src (n - 2) (by omega)).2
  rwa [show n - 2 + 1 = n - 1 by omega] at this
theorem dupL_no (n : Nat) (h2 : 2 ≤ n) : risesB (dupL n) = false := by
  refine risesB_no _ (n - 1) (by omega) (by rw [dupL_len]; omega) ?_
  have e1 : (dupL n).getD (n - 1) ⟨#[]⟩ = srcB (n - 1) := by
    unfold dupL
    rw [List.getD, List.getElem?_set_self (by rw [swapL_len]; omega)]
    rfl
  have e2 : (dupL n).getD (n - 1 - 1) ⟨#[]⟩ = srcB (n - 1) := by
    unfold dupL
    rw [List.getD, List.getElem?_set_ne (by omega), show n - 1 - 1 = n - 2 by omega]
    unfold swapL
    rw [List.getElem?_set_self (by rw [List.length_set, srcL_len]; omega)]
    rfl
  rw [e1, e2]
  exact le_self _
set_option maxRecDepth 20000 in
set_option maxHeartbeats 2000000 in
/-- Put of a derivation that may not be. -/
theorem put_err (d : Dv) (cs : Array Value) (w : World) (h : DrvAt w d cs) (he : rightE d ≠ 0) : Calls Tryd.prog 9 #[.agg cs] w fun e w' => e = .returned (.tuple #[.string ⟨#[]⟩, .int .i64 (rightE d)]) ∧ Below w.heap.size w w' := by
  have hb0 : Below w.heap.size w (w.alloc (.cells cs 27)) := below_new (Below.refl _ _) _
  have HR : Hid (Calls Tryd.prog 11 #[.agg cs] (w.alloc (.cells cs 27)) fun e w' => e = .returned (.int .i64 (rightE d)) ∧ Below (w.alloc (.cells cs 27)).heap.size (w.alloc (.cells cs 27)) w') := right_ok d cs _ (h.keep hb0)
  have HB0 : Hid _ := hb0
  have he' : (rightE d == 0) = false := beq_false_of_ne he
  obtain ⟨vo, vi, vs, va, ve, rfl, _⟩ := h.ex
  clear h hb0
  generalize rightE d = q at *
  go_enter Tryd.func9, Tryd.ntmps9
  go_wp2_with fail
  refine Calls.mono HR.out ?_
  rintro e w1 ⟨rfl, hb1⟩
  have HB1 : Hid (Below w.heap.size w w1) := below_next HB0.out hb1
  clear hb1
  go_wp2
  go_ret2
  exact ⟨rfl, HB1.out⟩
theorem and7 (k : Int) : ∃ m : Nat, m ≤ 7 ∧ bits .and .i64 k 7 = (m : Int) := by
  refine ⟨(BitVec.ofInt 64 k &&& BitVec.ofInt 64 7).toNat, ?_, ?_⟩
  · rw [BitVec.toNat_and]
    exact Nat.and_le_right
  · show IntKind.i64.wrap ((BitVec.ofInt 64 k &&& BitVec.ofInt 64 7).toNat : Int) = _
    have h : (BitVec.ofInt 64 k &&& BitVec.ofInt 64 7).toNat ≤ 7 := by
      rw [BitVec.toNat_and]
      exact Nat.and_le_right
    rw [IntKind.wrap_i64]
    omega
theorem run_one_str (w : World) (s : ByteArray) : (Instr.buildSlice 24 1 #[(0, .string s)]).run Tryd.prog w = .ok (.slice (some ⟨w.heap.size, 0, none⟩) 1 1) (w.alloc (.cells #[.string s] 9)) := by
  obtain ⟨i0, hi, hz0, hz1, hz2⟩ := info_parts info_str
  refine run_buildSlice w 24 9 1 _ _ i0 _ Tryd.underlying24 hi hz0 (by rw [hz1]; decide) (by rw [hz1]; decide) ?_
  rw [hz1]
  exact Great.fill_flat [.string s] _ (fun v hv => by simp at hv; subst hv; rfl) (by simp)
/-- A byte, as a text. -/
theorem run_letter (w : World) (i : Nat) (hi : i ≤ 8) : (Instr.buildSlice 49 1 #[(0, .int .u8 (97 + (i : Int)))]).run Tryd.prog w = .ok (.slice (some ⟨w.heap.size, 0, none⟩) 1 1) (w.alloc (.cells #[.int .u8 (97 + (i : Int))] 5)) ∧
    (convert 49 9 (.slice (some ⟨w.heap.size, 0, none⟩) 1 1)).run Tryd.prog (w.alloc (.cells #[.int .u8 (97 + (i : Int))] 5)) = .ok (.string ⟨#[UInt8.ofNat (97 + i)]⟩) (w.alloc (.cells #[.int .u8 (97 + (i : Int))] 5)) := by
  have e : ((UInt8.ofNat (97 + i)).toNat : Int) = 97 + (i : Int) := by
    rw [UInt8.toNat_ofNat', Nat.mod_eq_of_lt (by simp; omega)]
    omega
  have h1 := run_one w (UInt8.ofNat (97 + i))
  have h2 := conv_buf (w.alloc (.cells #[.int .u8 ((UInt8.ofNat (97 + i)).toNat : Int)] 5)) w.heap.size (.slice (some ⟨w.heap.size, 0, none⟩) 1 1) [UInt8.ofNat (97 + i)] (World.ownsRow_lit w #[.int .u8 ((UInt8.ofNat (97 + i)).toNat : Int)] 1 (Nat.le_refl _) (by decide) (by simp))
  rw [e] at h1 h2
  exact ⟨h1, h2⟩
theorem srcB_cat (i : Nat) : (⟨#[115]⟩ : ByteArray) ++ ⟨#[UInt8.ofNat (97 + i)]⟩ = srcB i := by
  rw [ByteArray.mk_append_mk]
  rfl
theorem strV_src (N i : Nat) (h : i < N) : (strV (srcL N))[i]? = some (.string (srcB i)) := by simp [strV, srcL, h]
theorem srcL_snoc (i : Nat) : srcL (i + 1) = srcL i ++ [srcB i] := by simp [srcL, List.range_succ]
/-- A derivation with other sources. -/
theorem drv_srcs {w wx : World} {d : Dv} {vo vi vs va ve sv : Value} {S : List ByteArray} (h : DrvAt w d #[vo, vi, vs, .string d.sys, .string d.bld, va, ve]) (hb : Below w.heap.size w wx) (hs : SlAt wx sv S.length (strV S)) : DrvAt wx { d with srcs := S } #[vo, vi, sv, .string d.sys, .string d.bld, va, ve] := by
  obtain ⟨vo', vi', vs', va', ve', h0, h1, h2, h3, h4, h5⟩ := h.ex
  simp only [Array.mk.injEq, List.cons.injEq, and_true, true_and] at h0
  obtain ⟨rfl, rfl, rfl, rfl, rfl⟩ := h0
  exact ⟨vo, vi, sv, va, ve, rfl, h1.keep hb, h2.keep hb, hs, h4.keep hb, h5.keep hb⟩
end Go.Proofs.YtmpgfepkdhjibaaDoor
