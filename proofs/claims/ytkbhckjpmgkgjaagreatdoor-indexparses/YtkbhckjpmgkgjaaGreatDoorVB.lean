/- My own work: the law VersionBack. -/
import Derived.Test.YtkbhckjpmgkgjaaGreatDoorV10
import Derived.Test.YtkbhckjpmgkgjaaGreatDoorV11
import Derived.Test.YtkbhckjpmgkgjaaGreatDoorVO
import Derived.Test.YtkbhckjpmgkgjaaGreatDoorDag2
namespace Go.Proofs.YtkbhckjpmgkgjaaGreatDoor
open Go.RowKit

abbrev r4 (a b c d : Int) : Array Value := #[.int .i64 a, .int .i64 b, .int .i64 c, .int .i64 d]
abbrev zero4 : Array Value := #[.int .i64 0, .int .i64 0, .int .i64 0, .int .i64 0]
theorem r4_one (a b c d : Int) : (r4 a b c d).all (·.oneCell') = true := by kernel_rfl
/-- A version, and what another one has behind its first numbers. -/
abbrev likC (v : Ver) (a b c d : Int) (t : ByteArray) : Array Value := #[.int .i64 v.n0, .int .i64 v.n1, .int .i64 v.n2, .int .i64 v.n3, .int .i64 v.cnt, .string v.tag, .int .i64 a, .int .i64 b, .int .i64 c, .int .i64 d, .string t]
/-- The version, and the rest, in cells of their own. -/
structure BkR (w wx : World) (v : Ver) (a b c d : Int) (gv gr : Nat) : Prop where
  ver : Row wx gv (verC v) 112
  rest : Row wx gr (r4 a b c d) 102
  bel : Below w.heap.size w wx
  lv : w.heap.size < gv
  lr : w.heap.size < gr
  ne : gv ≠ gr
theorem BkR.next {w wx wy : World} {v : Ver} {a b c d : Int} {gv gr : Nat} (h : BkR w wx v a b c d gv gr) (hb : Below wx.heap.size wx wy) : BkR w wy v a b c d gv gr :=
  ⟨h.ver.below hb h.ver.lt, h.rest.below hb h.rest.lt, h.bel.trans (hb.mono h.bel.size), h.lv, h.lr, h.ne⟩
section
variable {P : Program} {ops : Array Oper} {Q : Exit → Act → World → Prop} {act : Act} {o : Oper} {rest : List Oper} {w : World}
theorem exec_neqv (t : TypeId) (hg : Tryz.prog.eqGuardType Tryz.prog.depth t = false) (a b : Ver) (he : (Op.equalIn 10000 t (verV a) (verV b)).run Tryz.prog w = .ok (decide (a = b)) w) (x y : Operand) (ho : o.op = .binOp .neq t x y t) (hx : act.eval x = verV a) (hy : act.eval y = verV b) :
    (execOp act.eval o).run Tryz.prog w = .ok (.value (.bool (!decide (a = b)))) w := by
  unfold execOp
  simp only [ho, hx, hy]
  have h1 := run_eqGuard_agg (P := Tryz.prog) w .neq t x y (verC a) (verC b) hg
  have h2 := run_neq_struct (P := Tryz.prog) w t (verC a) (verC b)
  rw [he] at h2
  simp only [Sem.run_bind, Sem.run_pure, Result.andThen_ok, h1, h2]
theorem wp_neqv_wanted (hw : Region.wanted o (yielded ops act.tmps) = true) (t : TypeId) (hg : Tryz.prog.eqGuardType Tryz.prog.depth t = false) (a b : Ver) (he : ∀ w, (Op.equalIn 10000 t (verV a) (verV b)).run Tryz.prog w = .ok (decide (a = b)) w) (x y : Operand) (ho : o.op = .binOp .neq t x y t) (hx : act.eval x = verV a) (hy : act.eval y = verV b)
    (k : wpList Tryz.prog ops Q rest (act.put o.dst (.bool (!decide (a = b)))) w) : wpList Tryz.prog ops Q (o :: rest) act w := by
  unfold wpList
  rw [if_pos hw]
  refine .inl ?_
  unfold Oper.wp
  rw [exec_neqv t hg a b (he w) x y ho hx hy]
  exact k
end
theorem two_pow_pos (k : Nat) : (0 : Int) < 2 ^ k := Int.pow_pos (by decide)
theorem and_i64 (x y : Int) : bits .and .i64 x y = IntKind.i64.wrap (((BitVec.ofInt 64 x).toNat &&& (BitVec.ofInt 64 y).toNat : Nat) : Int) := by
  show IntKind.i64.wrap ((BitVec.ofInt 64 x &&& BitVec.ofInt 64 y).toNat : Int) = _
  rw [BitVec.toNat_and]

/-- A mask of the i lowest bits, of a number of whatever sign. -/
theorem and_mask_i64 (i : Nat) (hi : i ≤ 62) (x : Int) : bits .and .i64 x (2 ^ i - 1) = x % 2 ^ i := by
  have hpos : 0 < 2 ^ i := Nat.two_pow_pos i
  have hle : 2 ^ i ≤ 2 ^ 62 := Nat.pow_le_pow_right (by decide) hi
  have hc : ((2 : Int) ^ i - 1) = ((2 ^ i - 1 : Nat) : Int) := by rw [Int.natCast_sub hpos]; simp
  have hm : (2 ^ i - 1) % 2 ^ 64 = 2 ^ i - 1 := Nat.mod_eq_of_lt (by omega)
  have hx : (BitVec.ofInt 64 x).toNat % 2 ^ i = (x % 2 ^ i).toNat := by
    rw [BitVec.toNat_ofInt]
    have h1 : ((x % ((2 ^ 64 : Nat) : Int)).toNat : Int) = x % 2 ^ 64 := by
      rw [Int.toNat_of_nonneg (Int.emod_nonneg _ (by decide))]; rfl
    have hd : ((2 : Int) ^ i) ∣ 2 ^ 64 := by
      refine ⟨2 ^ (64 - i), ?_⟩
      rw [← Int.pow_add]; congr 1; omega
    have h2 : (((x % ((2 ^ 64 : Nat) : Int)).toNat % 2 ^ i : Nat) : Int) = x % 2 ^ i := by
      rw [Int.natCast_emod, h1]
      have : ((2 ^ i : Nat) : Int) = 2 ^ i := by simp
      rw [this, Int.emod_emod_of_dvd _ hd]
    omega
  rw [hc, and_i64, BitVec.ofInt_natCast, BitVec.toNat_ofNat, hm, Nat.and_two_pow_sub_one_eq_mod, hx]
  have h0 : 0 ≤ x % 2 ^ i := Int.emod_nonneg _ (Int.ne_of_gt (two_pow_pos i))
  have h1 : x % 2 ^ i < 2 ^ i := Int.emod_lt_of_pos _ (two_pow_pos i)
  have h2 : (2 : Int) ^ i ≤ 2 ^ 62 := by exact_mod_cast hle
  rw [Int.toNat_of_nonneg h0, IntKind.wrap_i64]
  omega

theorem and3 (x : Int) : ∃ k : Nat, bits .and .i64 x 3 = (k : Int) ∧ k < 4 := by
  have h := and_mask_i64 2 (by decide) x
  have h4 : (2 : Int) ^ 2 = 4 := by decide
  rw [h4] at h
  have e : bits .and .i64 x 3 = x % 4 := h
  refine ⟨(x % 4).toNat, ?_, ?_⟩ <;> omega

/-- 256 bytes as a text. -/
def sStr (f : Nat → Int) : ByteArray := strOfNums ((List.range 256).map f)

/-- One number another one. -/
def setN (o : Ver) (k : Nat) (y : Int) : Ver := match k with
  | 0 => { o with n0 := y }
  | 1 => { o with n1 := y }
  | 2 => { o with n2 := y }
  | _ => { o with n3 := y }
theorem setN_row (o : Ver) (k : Nat) (y : Int) (hk : k < 4) : (verC o).setIfInBounds k (.int .i64 y) = verC (setN o k y) := by
  match k, hk with
  | 0, _ => rfl
  | 1, _ => rfl
  | 2, _ => rfl
  | 3, _ => rfl
theorem setN_at (o : Ver) (k j : Nat) (y : Int) (hk : k < 4) (hj : j < k) : nAt (setN o k y) j = nAt o j := by
  match k, hk, j, hj with
  | 1, _, 0, _ => rfl
  | 2, _, 0, _ => rfl
  | 2, _, 1, _ => rfl
  | 3, _, 0, _ => rfl
  | 3, _, 1, _ => rfl
  | 3, _, 2, _ => rfl
/-- What holds while the other version is made. -/
structure BkO (w wx : World) (v : Ver) (a b c d : Int) (gv gr gb go m : Nat) : Prop where
  k : BkR w wx v a b c d gv gr
  b : Row wx gb (verC (bumpV v m)) 112
  o : ∃ o : Ver, Row wx go (verC o) 112 ∧ ∀ j, j < m → nAt o j = nAt v j
  tab : Pw wx
  far : gv ≠ go ∧ gr ≠ go ∧ gb ≠ go ∧ w.heap.size < go
  glob : 2 < w.heap.size
theorem BkO.next {w wx wy : World} {v : Ver} {a b c d : Int} {gv gr gb go m : Nat} (h : BkO w wx v a b c d gv gr gb go m) (hb : Below wx.heap.size wx wy) : BkO w wy v a b c d gv gr gb go m := by
  obtain ⟨o, h1, h2⟩ := h.o
  exact ⟨h.k.next hb, h.b.below hb h.b.lt, ⟨o, h1.below hb h1.lt, h2⟩, h.tab.keep hb h.tab.lt, h.far, h.glob⟩
theorem BkO.set {w wx : World} {v : Ver} {a b c d : Int} {gv gr gb go m : Nat} (h : BkO w wx v a b c d gv gr gb go m) {k : Nat} (hk : m ≤ k ∧ k < 4) (y : Int) : BkO w (wx.setCell ⟨go, k, none⟩ (.int .i64 y)) v a b c d gv gr gb go m := by
  obtain ⟨o, h1, h2⟩ := h.o
  obtain ⟨f1, f2, f3, f4⟩ := h.far
  have h3 := h1.setCell (i := k) (.int .i64 y)
  rw [setN_row o k y hk.2] at h3
  have hbel : Below go wx (wx.setCell ⟨go, k, none⟩ (.int .i64 y)) := below_set (Nat.le_refl _) _ _
  exact ⟨⟨h.k.ver.setCell_other f1 _, h.k.rest.setCell_other f2 _, h.k.bel.trans (below_set (by omega) _ _), h.k.lv, h.k.lr, h.k.ne⟩, h.b.setCell_other f3 _, ⟨_, h3, fun j hj => by rw [setN_at o k j y hk.2 (by omega)]; exact h2 j hj⟩, h.tab.keep hbel (by have := h.glob; omega), h.far, h.glob⟩
theorem bumpE_max {v : Ver} {m : Nat} (hm : mayV v = true) (h : 1 ≤ m ∧ m ≤ 4) (hx : nAt v (m - 1) = 999999999) : bumpE v (m : Int) = .tuple #[verV zeroV, .int .i64 20] := bumpE_of (r := (zeroV, 20)) (by unfold bumpR; rw [hm, if_pos rfl, if_pos (by omega), Int.toNat_natCast, if_pos hx])
theorem bumpE_fine {v : Ver} {m : Nat} (hm : mayV v = true) (h : 1 ≤ m ∧ m ≤ 4) (hx : nAt v (m - 1) ≠ 999999999) : bumpE v (m : Int) = .tuple #[verV (bumpV v m), .int .i64 0] := bumpE_of (r := (bumpV v m, 0)) (by unfold bumpR; rw [hm, if_pos rfl, if_pos (by omega), Int.toNat_natCast, if_neg hx])
theorem bump_above (v x : Ver) (n : Nat) (hn : 1 ≤ n ∧ n ≤ 4) (h : ∀ j, j < n → nAt x j = nAt v j) : cmpV (bumpV v n) x = 1 := by
  have h4 : n = 1 ∨ n = 2 ∨ n = 3 ∨ n = 4 := by omega
  rcases h4 with rfl | rfl | rfl | rfl
  · have e0 : x.n0 = v.n0 := h 0 (by omega)
    rw [cmpV_0 (by show v.n0 + 1 ≠ x.n0; omega)]
    exact cmpI_gt (by show x.n0 < v.n0 + 1; omega)
  · have e0 : x.n0 = v.n0 := h 0 (by omega)
    have e1 : x.n1 = v.n1 := h 1 (by omega)
    rw [cmpV_1 (by show v.n0 = x.n0; omega) (by show v.n1 + 1 ≠ x.n1; omega)]
    exact cmpI_gt (by show x.n1 < v.n1 + 1; omega)
  · have e0 : x.n0 = v.n0 := h 0 (by omega)
    have e1 : x.n1 = v.n1 := h 1 (by omega)
    have e2 : x.n2 = v.n2 := h 2 (by omega)
    rw [cmpV_2 (by show v.n0 = x.n0; omega) (by show v.n1 = x.n1; omega) (by show v.n2 + 1 ≠ x.n2; omega)]
    exact cmpI_gt (by show x.n2 < v.n2 + 1; omega)
  · have e0 : x.n0 = v.n0 := h 0 (by omega)
    have e1 : x.n1 = v.n1 := h 1 (by omega)
    have e2 : x.n2 = v.n2 := h 2 (by omega)
    have e3 : x.n3 = v.n3 := h 3 (by omega)
    rw [cmpV_3 (by show v.n0 = x.n0; omega) (by show v.n1 = x.n1; omega) (by show v.n2 = x.n2; omega) (by show v.n3 + 1 ≠ x.n3; omega)]
    exact cmpI_gt (by show x.n3 < v.n3 + 1; omega)
end Go.Proofs.YtkbhckjpmgkgjaaGreatDoor
