/- My own work: the law VersionBack. -/
import Derived.Test.YthhcpnlpkomoiaaDoorV10
import Derived.Test.YthhcpnlpkomoiaaDoorV11
import Derived.Test.YthhcpnlpkomoiaaDoorVO
import Derived.Test.YthhcpnlpkomoiaaDoorDag2
namespace Go.Proofs.YthhcpnlpkomoiaaDoor
open Go.RowKit

abbrev r4 (a b c d : Int) : Array Value := #[.int .i64 a, .int .i64 b, .int .i64 c, .int .i64 d]
abbrev zero4 : Array Value := #[.int .i64 0, .int .i64 0, .int .i64 0, .int .i64 0]
theorem r4_one (a b c d : Int) : (r4 a b c d).all (·.oneCell') = true := by kernel_rfl
/-- A version, and what another one has behind its first numbers. -/
abbrev likC (v : Ver) (a b c d : Int) (t : ByteArray) : Array Value := #[.int .i64 v.n0, .int .i64 v.n1, .int .i64 v.n2, .int .i64 v.n3, .int .i64 v.cnt, .string v.tag, .int .i64 a, .int .i64 b, .int .i64 c, .int .i64 d, .string t]
/-- What the reads of the first statement keep to. -/
def LkS (w : World) (C : Array Value) (wx : World) : Prop := Row wx w.heap.size C 46 ∧ Below w.heap.size w wx
theorem LkS.alloc {w wx : World} {C : Array Value} (h : LkS w C wx) (o : Obj) : LkS w C (wx.alloc o) := ⟨h.1.alloc o, h.2.alloc h.2.size o⟩
theorem LkS.lt0 {w wx : World} {C : Array Value} (h : LkS w C wx) {g : Nat} (hg : wx.heap.size ≤ g) : w.heap.size < g := Nat.lt_of_lt_of_le h.1.lt hg
theorem LkS.set {w wx : World} {C : Array Value} (h : LkS w C wx) {g : Nat} (hg : w.heap.size < g) (D : Array Value) : LkS w C (wx.setRow g D) := ⟨h.1.other (by omega), bel_setRow h.2 (by omega) D⟩
/-- The version, and the rest, in cells of their own. -/
structure BkR (w wx : World) (v : Ver) (a b c d : Int) (gv gr : Nat) : Prop where
  ver : Row wx gv (verC v) 24
  rest : Row wx gr (r4 a b c d) 22
  bel : Below w.heap.size w wx
  lv : w.heap.size < gv
  lr : w.heap.size < gr
  ne : gv ≠ gr
theorem BkR.next {w wx wy : World} {v : Ver} {a b c d : Int} {gv gr : Nat} (h : BkR w wx v a b c d gv gr) (hb : Below wx.heap.size wx wy) : BkR w wy v a b c d gv gr :=
  ⟨h.ver.below hb h.ver.lt, h.rest.below hb h.rest.lt, h.bel.trans (hb.mono h.bel.size), h.lv, h.lr, h.ne⟩
section
variable {P : Program} {ops : Array Oper} {Q : Exit → Act → World → Prop} {act : Act} {o : Oper} {rest : List Oper} {w : World}
theorem exec_neqv (t : TypeId) (hg : Tryd.prog.eqGuardType Tryd.prog.depth t = false) (a b : Ver) (he : (Op.equalIn 10000 t (verV a) (verV b)).run Tryd.prog w = .ok (decide (a = b)) w) (x y : Operand) (ho : o.op = .binOp .neq t x y t) (hx : act.eval x = verV a) (hy : act.eval y = verV b) :
    (execOp act.eval o).run Tryd.prog w = .ok (.value (.bool (!decide (a = b)))) w := by
  unfold execOp
  simp only [ho, hx, hy]
  have h1 := run_eqGuard_agg (P := Tryd.prog) w .neq t x y (verC a) (verC b) hg
  have h2 := run_neq_struct (P := Tryd.prog) w t (verC a) (verC b)
  rw [he] at h2
  simp only [Sem.run_bind, Sem.run_pure, Result.andThen_ok, h1, h2]
theorem wp_neqv_wanted (hw : Region.wanted o (yielded ops act.tmps) = true) (t : TypeId) (hg : Tryd.prog.eqGuardType Tryd.prog.depth t = false) (a b : Ver) (he : ∀ w, (Op.equalIn 10000 t (verV a) (verV b)).run Tryd.prog w = .ok (decide (a = b)) w) (x y : Operand) (ho : o.op = .binOp .neq t x y t) (hx : act.eval x = verV a) (hy : act.eval y = verV b)
    (k : wpList Tryd.prog ops Q rest (act.put o.dst (.bool (!decide (a = b)))) w) : wpList Tryd.prog ops Q (o :: rest) act w := by
  unfold wpList
  rw [if_pos hw]
  refine .inl ?_
  unfold Oper.wp
  rw [exec_neqv t hg a b (he w) x y ho hx hy]
  exact k
end
theorem two_pow_pos (k : Nat) : (0 : Int) < 2 ^ k := Int.pow_pos (by decide)
theorem and_i64 (x y : Int) : bits .and .i64 x y = IntKind.i64.wrap (((BitVec.ofInt 64 x).toNat &&& (BitVec.ofInt 64 y).toNat : Nat) : Int) := by
  show IntKind.i64.wrap ((BitVec.ofInt 64 x &&& BitVec.ofInt 64 y).toNat : Int) = _
  rw [BitVec.toNat_and]

/-- A mask of the i lowest bits, of a number of whatever sign. -/
theorem and_mask_i64 (i : Nat) (hi : i ≤ 62) (x : Int) : bits .and .i64 x (2 ^ i - 1) = x % 2 ^ i := by
  have hpos : 0 < 2 ^ i := Nat.two_pow_pos i
  have hle : 2 ^ i ≤ 2 ^ 62 := Nat.pow_le_pow_right (by decide) hi
  have hc : ((2 : Int) ^ i - 1) = ((2 ^ i - 1 : Nat) : Int) := by rw [Int.natCast_sub hpos]; simp
  have hm : (2 ^ i - 1) % 2 ^ 64 = 2 ^ i - 1 := Nat.mod_eq_of_lt (by omega)
  have hx : (BitVec.ofInt 64 x).toNat % 2 ^ i = (x % 2 ^ i).toNat := by
    rw [BitVec.toNat_ofInt]
    have h1 : ((x % ((2 ^ 64 : Nat) : Int)).toNat : Int) = x % 2 ^ 64 := by
      rw [Int.toNat_of_nonneg (Int.emod_nonneg _ (by decide))]; rfl
    have hd : ((2 : Int) ^ i) ∣ 2 ^ 64 := by
      refine ⟨2 ^ (64 - i), ?_⟩
      rw [← Int.pow_add]; congr 1; omega
    have h2 : (((x % ((2 ^ 64 : Nat) : Int)).toNat % 2 ^ i : Nat) : Int) = x % 2 ^ i := by
      rw [Int.natCast_emod, h1]
      have : ((2 ^ i : Nat) : Int) = 2 ^ i := by simp
      rw [this, Int.emod_emod_of_dvd _ hd]
    omega
  rw [hc, and_i64, BitVec.ofInt_natCast, BitVec.toNat_ofNat, hm, Nat.and_two_pow_sub_one_eq_mod, hx]
  have h0 : 0 ≤ x % 2 ^ i := Int.emod_nonneg _ (Int.ne_of_gt (two_pow_pos i))
  have h1 : x % 2 ^ i < 2 ^ i := Int.emod_lt_of_pos _ (two_pow_pos i)
  have h2 : (2 : Int) ^ i ≤ 2 ^ 62 := by exact_mod_cast hle
  rw [Int.toNat_of_nonneg h0, IntKind.wrap_i64]
  omega

theorem and3 (x : Int) : ∃ k : Nat, bits .and .i64 x 3 = (k : Int) ∧ k < 4 := by
  have h := and_mask_i64 2 (by decide) x
  have h4 : (2 : Int) ^ 2 = 4 := by decide
  rw [h4] at h
  have e : bits .and .i64 x 3 = x % 4 := h
  refine ⟨(x % 4).toNat, ?_, ?_⟩ <;> omega

/-- 256 bytes as a text. -/
def sStr (f : Nat → Int) : ByteArray := strOfNums ((List.range 256).map f)

/-- One number another one. -/
def setN (o : Ver) (k : Nat) (y : Int) : Ver := match k with
  | 0 => { o with n0 := y }
  | 1 => { o with n1 := y }
  | 2 => { o with n2 := y }
  | _ => { o with n3 := y }
theorem setN_row (o : Ver) (k : Nat) (y : Int) (hk : k < 4) : (verC o).setIfInBounds k (.int .i64 y) = verC (setN o k y) := by
  match k, hk with
  | 0, _ => rfl
  | 1, _ => rfl
  | 2, _ => rfl
  | 3, _ => rfl
theorem setN_at (o : Ver) (k j : Nat) (y : Int) (hk : k < 4) (hj : j < k) : nAt (setN o k y) j = nAt o j := by
  match k, hk, j, hj with
  | 1, _, 0, _ => rfl
  | 2, _, 0, _ => rfl
  | 2, _, 1, _ => rfl
  | 3, _, 0, _ => rfl
  | 3, _, 1, _ => rfl
  | 3, _, 2, _ => rfl
/-- What holds while the other version is made. -/
structure BkO (w wx : World) (v : Ver) (a b c d : Int) (gv gr gb go m : Nat) : Prop where
  k : BkR w wx v a b c d gv gr
  b : Row wx gb (verC (bumpV v m)) 24
  o : ∃ o : Ver, Row wx go (verC o) 24 ∧ ∀ j, j < m → nAt o j = nAt v j
  tab : Pw wx
  far : gv ≠ go ∧ gr ≠ go ∧ gb ≠ go ∧ w.heap.size < go
  glob : 1 < w.heap.size
theorem BkO.next {w wx wy : World} {v : Ver} {a b c d : Int} {gv gr gb go m : Nat} (h : BkO w wx v a b c d gv gr gb go m) (hb : Below wx.heap.size wx wy) : BkO w wy v a b c d gv gr gb go m := by
  obtain ⟨o, h1, h2⟩ := h.o
  exact ⟨h.k.next hb, h.b.below hb h.b.lt, ⟨o, h1.below hb h1.lt, h2⟩, h.tab.keep hb h.tab.lt, h.far, h.glob⟩
theorem BkO.set {w wx : World} {v : Ver} {a b c d : Int} {gv gr gb go m : Nat} (h : BkO w wx v a b c d gv gr gb go m) {k : Nat} (hk : m ≤ k ∧ k < 4) (y : Int) : BkO w (wx.setCell ⟨go, k, none⟩ (.int .i64 y)) v a b c d gv gr gb go m := by
  obtain ⟨o, h1, h2⟩ := h.o
  obtain ⟨f1, f2, f3, f4⟩ := h.far
  have h3 := h1.setCell (i := k) (.int .i64 y)
  rw [setN_row o k y hk.2] at h3
  have hbel : Below go wx (wx.setCell ⟨go, k, none⟩ (.int .i64 y)) := below_set (Nat.le_refl _) _ _
  exact ⟨⟨h.k.ver.setCell_other f1 _, h.k.rest.setCell_other f2 _, h.k.bel.trans (below_set (by omega) _ _), h.k.lv, h.k.lr, h.k.ne⟩, h.b.setCell_other f3 _, ⟨_, h3, fun j hj => by rw [setN_at o k j y hk.2 (by omega)]; exact h2 j hj⟩, h.tab.keep hbel (by have := h.glob; omega), h.far, h.glob⟩
theorem bumpE_max {v : Ver} {m : Nat} (hm : mayV v = true) (h : 1 ≤ m ∧ m ≤ 4) (hx : nAt v (m - 1) = 999999999) : bumpE v (m : Int) = .tuple #[verV zeroV, .int .i64 20] := bumpE_of (r := (zeroV, 20)) (by unfold bumpR; rw [hm, if_pos rfl, if_pos (by omega), Int.toNat_natCast, if_pos hx])
theorem bumpE_fine {v : Ver} {m : Nat} (hm : mayV v = true) (h : 1 ≤ m ∧ m ≤ 4) (hx : nAt v (m - 1) ≠ 999999999) : bumpE v (m : Int) = .tuple #[verV (bumpV v m), .int .i64 0] := bumpE_of (r := (bumpV v m, 0)) (by unfold bumpR; rw [hm, if_pos rfl, if_pos (by omega), Int.toNat_natCast, if_neg hx])
theorem bump_above (v x : Ver) (n : Nat) (hn : 1 ≤ n ∧ n ≤ 4) (h : ∀ j, j < n → nAt x j = nAt v j) : cmpV (bumpV v n) x = 1 := by
  have h4 : n = 1 ∨ n = 2 ∨ n = 3 ∨ n = 4 := by omega
  rcases h4 with rfl | rfl | rfl | rfl
  · have e0 : x.n0 = v.n0 := h 0 (by omega)
    rw [cmpV_0 (by show v.n0 + 1 ≠ x.n0; omega)]
    exact cmpI_gt (by show x.n0 < v.n0 + 1; omega)
  · have e0 : x.n0 = v.n0 := h 0 (by omega)
    have e1 : x.n1 = v.n1 := h 1 (by omega)
    rw [cmpV_1 (by show v.n0 = x.n0; omega) (by show v.n1 + 1 ≠ x.n1; omega)]
    exact cmpI_gt (by show x.n1 < v.n1 + 1; omega)
  · have e0 : x.n0 = v.n0 := h 0 (by omega)
    have e1 : x.n1 = v.n1 := h 1 (by omega)
    have e2 : x.n2 = v.n2 := h 2 (by omega)
    rw [cmpV_2 (by show v.n0 = x.n0; omega) (by show v.n1 = x.n1; omega) (by show v.n2 + 1 ≠ x.n2; omega)]
    exact cmpI_gt (by show x.n2 < v.n2 + 1; omega)
  · have e0 : x.n0 = v.n0 := h 0 (by omega)
    have e1 : x.n1 = v.n1 := h 1 (by omega)
    have e2 : x.n2 = v.n2 := h 2 (by omega)
    have e3 : x.n3 = v.n3 := h 3 (by omega)
    rw [cmpV_3 (by show v.n0 = x.n0; omega) (by show v.n1 = x.n1; omega) (by show v.n2 = x.n2; omega) (by show v.n3 + 1 ≠ x.n3; omega)]
    exact cmpI_gt (by show x.n3 < v.n3 + 1; omega)
set_option maxRecDepth 20000 in
set_option maxHeartbeats 8000000 in
theorem law_back (v : Ver) (r0 r1 r2 r3 : Int) (tg : ByteArray) (n : Int) (w : World) (hT : Pw w) : Calls Tryd.prog 6 #[.agg (likC v r0 r1 r2 r3 tg), .int .i64 n] w fun e w' => e = .returned (.bool true) ∧ Below w.heap.size w w' := by
  have hS : LkS w (likC v r0 r1 r2 r3 tg) (w.alloc (.cells (likC v r0 r1 r2 r3 tg) 46)) := ⟨Row.new w _ _, (Below.refl _ _).alloc (Nat.le_refl _) _⟩
  obtain ⟨w1, hw1⟩ : ∃ x, x = w.alloc (.cells (likC v r0 r1 r2 r3 tg) 46) := ⟨_, rfl⟩
  rw [← hw1] at hS
  have hw1' := hw1.symm
  have HS : Hid (LkS w (likC v r0 r1 r2 r3 tg) w1) := hS
  have HT : Hid (Pw w) := hT
  clear hw1 hS hT
  go_enter Tryd.func6, Tryd.ntmps6
  go_upto_region 1 with fail
  clear hw1'
  go_cut [5, 6, 7] (fun s5 s6 s7 wx => ∃ gv gr, s5 = .pointer (some ⟨gv, 0, none⟩) ∧ s6 = .pointer (some ⟨gr, 0, none⟩) ∧ s7 = .string tg ∧ Hid (BkR w wx v r0 r1 r2 r3 gv gr))
  case first =>
    have hS0 : LkS w (likC v r0 r1 r2 r3 tg) w1.drew := ⟨HS.out.1, HS.out.2.drew⟩
    refine wp_region_dag2 [(false, 0), (false, 1), (false, 2), (false, 3), (false, 4), (false, 5)] #[true, true, true, true, true, true, false, false, false, false, false] 5 (LkS w (likC v r0 r1 r2 r3 tg)) (by kernel_rfl) (by kernel_rfl) hS0 ?_
    refine a_value (some 16) (.pointer (some ⟨w.heap.size, 0, none⟩)) rfl rfl (by rfl) (fun wx hw => ?_) ?_
    · go_simp
    simp only [Act.put, List.setIfInBounds_toArray, List.set_cons_zero, List.set_cons_succ]
    refine a_value (some 17) (verV v) rfl rfl (by rfl) (fun wx hw => ?_) ?_
    · skip
      have c0 := (hw.1.cell 0).trans (rfl : _ = some (Value.int .i64 v.n0))
      have c1 := (hw.1.cell 1).trans (rfl : _ = some (Value.int .i64 v.n1))
      have c2 := (hw.1.cell 2).trans (rfl : _ = some (Value.int .i64 v.n2))
      have c3 := (hw.1.cell 3).trans (rfl : _ = some (Value.int .i64 v.n3))
      have c4 := (hw.1.cell 4).trans (rfl : _ = some (Value.int .i64 v.cnt))
      have c5 := (hw.1.cell 5).trans (rfl : _ = some (Value.string v.tag))
      have c6 := (hw.1.cell 6).trans (rfl : _ = some (Value.int .i64 r0))
      have c7 := (hw.1.cell 7).trans (rfl : _ = some (Value.int .i64 r1))
      have c8 := (hw.1.cell 8).trans (rfl : _ = some (Value.int .i64 r2))
      have c9 := (hw.1.cell 9).trans (rfl : _ = some (Value.int .i64 r3))
      have c10 := (hw.1.cell 10).trans (rfl : _ = some (Value.string tg))
      go_simp
    simp only [Act.put, List.setIfInBounds_toArray, List.set_cons_zero, List.set_cons_succ]
    refine a_value (some 18) (.pointer (some ⟨w.heap.size, 6, none⟩)) rfl rfl (by rfl) (fun wx hw => ?_) ?_
    · go_simp
    simp only [Act.put, List.setIfInBounds_toArray, List.set_cons_zero, List.set_cons_succ]
    refine a_value (some 19) (.agg (r4 r0 r1 r2 r3)) rfl rfl (by rfl) (fun wx hw => ?_) ?_
    · skip
      have c0 := (hw.1.cell 0).trans (rfl : _ = some (Value.int .i64 v.n0))
      have c1 := (hw.1.cell 1).trans (rfl : _ = some (Value.int .i64 v.n1))
      have c2 := (hw.1.cell 2).trans (rfl : _ = some (Value.int .i64 v.n2))
      have c3 := (hw.1.cell 3).trans (rfl : _ = some (Value.int .i64 v.n3))
      have c4 := (hw.1.cell 4).trans (rfl : _ = some (Value.int .i64 v.cnt))
      have c5 := (hw.1.cell 5).trans (rfl : _ = some (Value.string v.tag))
      have c6 := (hw.1.cell 6).trans (rfl : _ = some (Value.int .i64 r0))
      have c7 := (hw.1.cell 7).trans (rfl : _ = some (Value.int .i64 r1))
      have c8 := (hw.1.cell 8).trans (rfl : _ = some (Value.int .i64 r2))
      have c9 := (hw.1.cell 9).trans (rfl : _ = some (Value.int .i64 r3))
      have c10 := (hw.1.cell 10).trans (rfl : _ = some (Value.string tg))
      go_simp
    simp only [Act.put, List.setIfInBounds_toArray, List.set_cons_zero, List.set_cons_succ]
    refine a_value (some 20) (.pointer (some ⟨w.heap.size, 10, none⟩)) rfl rfl (by rfl) (fun wx hw => ?_) ?_
    · go_simp
    simp only [Act.put, List.setIfInBounds_toArray, List.set_cons_zero, List.set_cons_succ]
    refine a_value (some 21) (.string tg) rfl rfl (by rfl) (fun wx hw => ?_) ?_
    · skip
      have c0 := (hw.1.cell 0).trans (rfl : _ = some (Value.int .i64 v.n0))
      have c1 := (hw.1.cell 1).trans (rfl : _ = some (Value.int .i64 v.n1))
      have c2 := (hw.1.cell 2).trans (rfl : _ = some (Value.int .i64 v.n2))
      have c3 := (hw.1.cell 3).trans (rfl : _ = some (Value.int .i64 v.n3))
      have c4 := (hw.1.cell 4).trans (rfl : _ = some (Value.int .i64 v.cnt))
      have c5 := (hw.1.cell 5).trans (rfl : _ = some (Value.string v.tag))
      have c6 := (hw.1.cell 6).trans (rfl : _ = some (Value.int .i64 r0))
      have c7 := (hw.1.cell 7).trans (rfl : _ = some (Value.int .i64 r1))
      have c8 := (hw.1.cell 8).trans (rfl : _ = some (Value.int .i64 r2))
      have c9 := (hw.1.cell 9).trans (rfl : _ = some (Value.int .i64 r3))
      have c10 := (hw.1.cell 10).trans (rfl : _ = some (Value.string tg))
      go_simp
    simp only [Act.put, List.setIfInBounds_toArray, List.set_cons_zero, List.set_cons_succ]
    refine a_done ?_
    intro _
    generalize w1.drew = wx0 at *
    refine d_two (i := 6) (j := 7) (by kernel_rfl) ?wayA ?wayB
    case wayA =>
      refine d_alone (some 5) (.pointer (some ⟨wx0.heap.size, 0, none⟩)) (wx0.alloc (.cells zeroC 24)) rfl rfl (by rfl) (by go_simp) (hS0.alloc _) ?_
      simp only [Act.put, List.setIfInBounds_toArray, List.set_cons_zero, List.set_cons_succ]
      have hr0 : Row (wx0.alloc (.cells zeroC 24)) wx0.heap.size zeroC 24 := Row.new wx0 _ _
      have hs0 : (wx0.alloc (.cells zeroC 24)).heap.size = wx0.heap.size + 1 := by simp
      have hS1 := hS0.alloc (.cells zeroC 24)
      generalize wx0.alloc (.cells zeroC 24) = wx1 at *
      refine d_one (i := 7) (by kernel_rfl) ?_
      refine d_alone (some 6) (.pointer (some ⟨wx1.heap.size, 0, none⟩)) (wx1.alloc (.cells zero4 22)) rfl rfl (by rfl) (by go_simp) (hS1.alloc _) ?_
      simp only [Act.put, List.setIfInBounds_toArray, List.set_cons_zero, List.set_cons_succ]
      have hr1 : Row (wx1.alloc (.cells zero4 22)) wx1.heap.size zero4 22 := Row.new wx1 _ _
      have hr01 := hr0.alloc (.cells zero4 22)
      have hS2 := hS1.alloc (.cells zero4 22)
      generalize wx1.alloc (.cells zero4 22) = wx2 at *
      have hne : wx0.heap.size ≠ wx1.heap.size := by omega
      have hlt0 : w.heap.size < wx0.heap.size := hS0.lt0 (by omega)
      have hlt1 : w.heap.size < wx1.heap.size := hS0.lt0 (by omega)
      refine d_one (i := 8) (by kernel_rfl) ?_
      refine d_wp (o := _) rfl (by rfl) (wp_store_row 24 (.tmp 5) (.tmp 17) rfl wx0.heap.size (verC v) rfl rfl 24 zeroC hr01 infoVs rfl (verC_one v) ?_)
      have hk5 := Row.setRow (C' := verC v) hr01
      have hk6 := Row.other (C' := verC v) hr1 (k := wx0.heap.size) (by omega)
      have hS3 := hS2.set (g := wx0.heap.size) (by omega) (verC v)
      refine ⟨hS3, ?_⟩
      generalize wx2.setRow wx0.heap.size (verC v) = wx3 at *
      refine d_one (i := 9) (by kernel_rfl) ?_
      refine d_wp (o := _) rfl (by rfl) (wp_store_row 22 (.tmp 6) (.tmp 19) rfl wx1.heap.size (r4 r0 r1 r2 r3) rfl rfl 22 zero4 hk6 info22s rfl (r4_one r0 r1 r2 r3) ?_)
      have hm6 := Row.setRow (C' := r4 r0 r1 r2 r3) hk6
      have hm5 := Row.other (C' := r4 r0 r1 r2 r3) hk5 (k := wx1.heap.size) (by omega)
      have hS4 := hS3.set (g := wx1.heap.size) (by omega) (r4 r0 r1 r2 r3)
      refine ⟨hS4, ?_⟩
      generalize wx3.setRow wx1.heap.size (r4 r0 r1 r2 r3) = wx4 at *
      refine d_one (i := 10) (by kernel_rfl) ?_
      refine d_alone (some 7) (.string tg) wx4 rfl rfl (by rfl) (by kernel_rfl) hS4 ?_
      simp only [Act.put, List.setIfInBounds_toArray, List.set_cons_zero, List.set_cons_succ]
      refine d_done (by kernel_rfl) ?_
      have HZ : Hid (BkR w wx4 v r0 r1 r2 r3 wx0.heap.size wx1.heap.size) := ⟨hm5, hm6, hS4.2, by omega, by omega, by omega⟩
      clear hr0 hs0 hr1 hr01 hS0 hS1 hS2 hS3 hS4 hk5 hk6 hm5 hm6 hne hlt0 hlt1
      try simp only [Exit.then]
      go_wp2
      go_meet
      exact ⟨_, _, rfl, rfl, rfl, HZ⟩
    case wayB =>
      refine d_alone (some 6) (.pointer (some ⟨wx0.heap.size, 0, none⟩)) (wx0.alloc (.cells zero4 22)) rfl rfl (by rfl) (by go_simp) (hS0.alloc _) ?_
      simp only [Act.put, List.setIfInBounds_toArray, List.set_cons_zero, List.set_cons_succ]
      have hr0 : Row (wx0.alloc (.cells zero4 22)) wx0.heap.size zero4 22 := Row.new wx0 _ _
      have hs0 : (wx0.alloc (.cells zero4 22)).heap.size = wx0.heap.size + 1 := by simp
      have hS1 := hS0.alloc (.cells zero4 22)
      generalize wx0.alloc (.cells zero4 22) = wx1 at *
      refine d_one (i := 6) (by kernel_rfl) ?_
      refine d_alone (some 5) (.pointer (some ⟨wx1.heap.size, 0, none⟩)) (wx1.alloc (.cells zeroC 24)) rfl rfl (by rfl) (by go_simp) (hS1.alloc _) ?_
      simp only [Act.put, List.setIfInBounds_toArray, List.set_cons_zero, List.set_cons_succ]
      have hr1 : Row (wx1.alloc (.cells zeroC 24)) wx1.heap.size zeroC 24 := Row.new wx1 _ _
      have hr01 := hr0.alloc (.cells zeroC 24)
      have hS2 := hS1.alloc (.cells zeroC 24)
      generalize wx1.alloc (.cells zeroC 24) = wx2 at *
      have hne : wx0.heap.size ≠ wx1.heap.size := by omega
      have hlt0 : w.heap.size < wx1.heap.size := hS0.lt0 (by omega)
      have hlt1 : w.heap.size < wx0.heap.size := hS0.lt0 (by omega)
      refine d_one (i := 8) (by kernel_rfl) ?_
      refine d_wp (o := _) rfl (by rfl) (wp_store_row 24 (.tmp 5) (.tmp 17) rfl wx1.heap.size (verC v) rfl rfl 24 zeroC hr1 infoVs rfl (verC_one v) ?_)
      have hk5 := Row.setRow (C' := verC v) hr1
      have hk6 := Row.other (C' := verC v) hr01 (k := wx1.heap.size) (by omega)
      have hS3 := hS2.set (g := wx1.heap.size) (by omega) (verC v)
      refine ⟨hS3, ?_⟩
      generalize wx2.setRow wx1.heap.size (verC v) = wx3 at *
      refine d_one (i := 9) (by kernel_rfl) ?_
      refine d_wp (o := _) rfl (by rfl) (wp_store_row 22 (.tmp 6) (.tmp 19) rfl wx0.heap.size (r4 r0 r1 r2 r3) rfl rfl 22 zero4 hk6 info22s rfl (r4_one r0 r1 r2 r3) ?_)
      have hm6 := Row.setRow (C' := r4 r0 r1 r2 r3) hk6
      have hm5 := Row.other (C' := r4 r0 r1 r2 r3) hk5 (k := wx0.heap.size) (by omega)
      have hS4 := hS3.set (g := wx0.heap.size) (by omega) (r4 r0 r1 r2 r3)
      refine ⟨hS4, ?_⟩
      generalize wx3.setRow wx0.heap.size (r4 r0 r1 r2 r3) = wx4 at *
      refine d_one (i := 10) (by kernel_rfl) ?_
      refine d_alone (some 7) (.string tg) wx4 rfl rfl (by rfl) (by kernel_rfl) hS4 ?_
      simp only [Act.put, List.setIfInBounds_toArray, List.set_cons_zero, List.set_cons_succ]
      refine d_done (by kernel_rfl) ?_
      have HZ : Hid (BkR w wx4 v r0 r1 r2 r3 wx1.heap.size wx0.heap.size) := ⟨hm5, hm6, hS4.2, by omega, by omega, by omega⟩
      clear hr0 hs0 hr1 hr01 hS0 hS1 hS2 hS3 hS4 hk5 hk6 hm5 hm6 hne hlt0 hlt1
      try simp only [Exit.then]
      go_wp2
      go_meet
      exact ⟨_, _, rfl, rfl, rfl, HZ⟩
  case rest =>
    obtain ⟨gv, gr, rfl, rfl, rfl, HZ⟩ := hcut
    clear HS
    have hTc : Pw wc := HT.out.keep HZ.out.bel HT.out.lt
    have htx := text_ok v wc hTc
    have HTc : Hid (Pw wc) := hTc
    clear hTc
    cases hm : mayV v with
    | false =>
      rw [textE_no hm] at htx
      clear hm
      go_wp2_with (refine wpList_load_row rfl 24 _ rfl gv rfl 24 (verC v) (0, 0) _ HZ.out.ver Tryd.underlying24 rfl infoVs ?_)
      refine htx.mono ?_
      rintro e w2 ⟨rfl, hb2⟩
      have HB : Hid (Below w.heap.size w w2) := (BkR.next HZ.out hb2).bel
      clear htx hb2
      go_wp2
      go_ret
      exact ⟨rfl, HB.out⟩
    | true =>
      rw [textE_yes hm] at htx
      have hmay := (mayV_iff v).1 hm
      have HPT : Hid (parseE (tx (textV v)) = .tuple #[verV v, .int .i64 0]) := parseE_yes (by rw [vb_tx]; exact parse_text hmay)
      have hlen : (textV v).length ≤ 60 := by
        have h1 := join_small hmay
        have h2 := hmay.tag
        unfold textV tagT
        rw [List.length_append]
        by_cases ht : vb v.tag = []
        · rw [if_pos ht]
          simp
          omega
        · rw [if_neg ht, List.length_cons]
          rcases h2 with h | h
          · exact absurd h ht
          · unfold tagB at h
            rw [Bool.and_eq_true, decide_eq_true_eq] at h
            omega
      have HM : Hid (mayV v = true) := hm
      obtain ⟨S, hS⟩ : ∃ S, S = tx (textV v) := ⟨_, rfl⟩
      have hSl : S.size ≤ 140737488355328 := by rw [hS, tx_size]; omega
      rw [← hS] at htx HPT
      clear hm hmay hlen hS
      go_wp2_with (refine wpList_load_row rfl 24 _ rfl gv rfl 24 (verC v) (0, 0) _ HZ.out.ver Tryd.underlying24 rfl infoVs ?_)
      refine htx.mono ?_
      rintro e w2 ⟨rfl, hb2⟩
      have HZ2 : Hid (BkR w w2 v r0 r1 r2 r3 gv gr) := BkR.next HZ.out hb2
      have HT2 : Hid (Pw w2) := HTc.out.keep hb2 HTc.out.lt
      have hpa := parse_ok S w2 hSl
      rw [HPT.out] at hpa
      clear htx hb2
      go_wp2_with fail
      refine hpa.mono ?_
      rintro e w3 ⟨rfl, hb3⟩
      have hz4 : BkR w (w3.alloc (.cells (verC v) 24)) v r0 r1 r2 r3 gv gr := (BkR.next HZ2.out hb3).next ((Below.refl _ _).alloc (Nat.le_refl _) _)
      have hr4 : Row (w3.alloc (.cells (verC v) 24)) w3.heap.size (verC v) 24 := Row.new _ _ _
      have ht4 : Pw (w3.alloc (.cells (verC v) 24)) := (HT2.out.keep hb3 HT2.out.lt).keep ((Below.refl _ _).alloc (Nat.le_refl _) _) (Nat.lt_of_lt_of_le HT2.out.lt hb3.size)
      have HZ4 : Hid (BkR w (w3.alloc (.cells (verC v) 24)) v r0 r1 r2 r3 gv gr) := hz4
      have HR4 : Hid (Row (w3.alloc (.cells (verC v) 24)) w3.heap.size (verC v) 24) := hr4
      have HT4 : Hid (Pw (w3.alloc (.cells (verC v) 24))) := ht4
      clear hpa hb3 hz4 hr4 ht4
      obtain ⟨k3, hand, hk3⟩ := and3 n
      obtain ⟨m, hmk⟩ : ∃ m, m = k3 + 1 := ⟨_, rfl⟩
      have hm4 : 1 ≤ m ∧ m ≤ 4 := by omega
      have hwr : IntKind.i64.wrap (1 + (k3 : Int)) = (m : Int) := by rw [IntKind.wrap_i64]; omega
      have hwr' : wrap64 (1 + (k3 : Int)) = (m : Int) := by rw [IntWalk.wrap64_in _ ⟨by omega, by omega⟩]; omega
      clear hmk hk3
      go_wp2_with (first | refine wpList_store_new rfl 24 _ _ rfl w3 zeroC (verC v) 24 rfl w3.heap.size rfl rfl rfl infoVs rfl (verC_one _) ?_ | refine wpList_load_wanted (by rfl) 24 _ rfl w3.heap.size rfl 24 (verC v) _ HR4.out Tryd.underlying24 rfl infoVs ?_ | refine wpList_load_wanted (by rfl) 24 _ rfl gv rfl 24 (verC v) _ (BkR.ver HZ4.out) Tryd.underlying24 rfl infoVs ?_ | (refine wp_neqv_wanted (by rfl) 24 guardP v v (fun w => eq_ver v v w) _ _ rfl rfl rfl ?_; rw [decide_eq_true (rfl : v = v)]))
      clear hand hwr hwr'
      obtain ⟨w4, hw4⟩ : ∃ x, x = w3.alloc (.cells (verC v) 24) := ⟨_, rfl⟩
      rw [← hw4] at HZ4 HR4 HT4
      rw [← hw4]
      clear hw4
      have hbu := bump_ok v (m : Int) w4
      by_cases hx : nAt v (m - 1) = 999999999
      · rw [bumpE_max HM.out hm4 hx] at hbu
        refine hbu.mono ?_
        rintro e w5 ⟨rfl, hb5⟩
        have hz6 : BkR w (w5.alloc (.cells zeroC 24)) v r0 r1 r2 r3 gv gr := (BkR.next HZ4.out hb5).next ((Below.refl _ _).alloc (Nat.le_refl _) _)
        have HZ6 : Hid (BkR w (w5.alloc (.cells zeroC 24)) v r0 r1 r2 r3 gv gr) := hz6
        have hcl : (w5.alloc (.cells zeroC 24)).cell? ⟨gv, m - 1, none⟩ = some (.int .i64 999999999) := by
          rw [hz6.ver.cell (m - 1), ← hx]
          have h4 : m = 1 ∨ m = 2 ∨ m = 3 ∨ m = 4 := by omega
          rcases h4 with rfl | rfl | rfl | rfl <;> rfl
        obtain ⟨m1, hm1⟩ : ∃ m1, m1 = m - 1 := ⟨_, rfl⟩
        have hwm : IntKind.i64.wrap ((m : Int) - 1) = (m1 : Int) := by rw [IntKind.wrap_i64]; omega
        have hm14 : (m1 : Int) < 4 := by omega
        rw [← hm1] at hcl
        clear hbu hb5 hz6 hm1 hx
        go_wp2_with (refine wpList_store_new rfl 24 _ _ rfl w5 zeroC zeroC 24 rfl w5.heap.size rfl rfl rfl infoVs rfl zeroC_one ?_)
        go_ret
        exact ⟨rfl, (BkR.bel HZ6.out)⟩
      · rw [bumpE_fine HM.out hm4 hx] at hbu
        refine hbu.mono ?_
        rintro e w5 ⟨rfl, hb5⟩
        have hz6 : BkR w (w5.alloc (.cells (verC (bumpV v m)) 24)) v r0 r1 r2 r3 gv gr := (BkR.next HZ4.out hb5).next ((Below.refl _ _).alloc (Nat.le_refl _) _)
        have hr6 : Row (w5.alloc (.cells (verC (bumpV v m)) 24)) w5.heap.size (verC (bumpV v m)) 24 := Row.new _ _ _
        have ht6 : Pw (w5.alloc (.cells (verC (bumpV v m)) 24)) := (HT4.out.keep hb5 HT4.out.lt).keep ((Below.refl _ _).alloc (Nat.le_refl _) _) (Nat.lt_of_lt_of_le HT4.out.lt hb5.size)
        have hs6 : (w5.alloc (.cells (verC (bumpV v m)) 24)).heap.size = w5.heap.size + 1 := by simp
        obtain ⟨w6, hw6⟩ : ∃ x, x = w5.alloc (.cells (verC (bumpV v m)) 24) := ⟨_, rfl⟩
        rw [← hw6] at hz6 hr6 ht6 hs6
        have hw6' := hw6.symm
        have hb7 : Below w6.heap.size w6 (w6.alloc (.cells (verC v) 24)) := (Below.refl _ _).alloc (Nat.le_refl _) _
        have hz7 := hz6.next hb7
        have hr7 := hr6.below hb7 hr6.lt
        have ht7 := ht6.keep hb7 ht6.lt
        have ho7 : Row (w6.alloc (.cells (verC v) 24)) w6.heap.size (verC v) 24 := Row.new _ _ _
        have hl7 := hz6.ver.lt
        have hl7' := hz6.rest.lt
        obtain ⟨w7, hw7⟩ : ∃ x, x = w6.alloc (.cells (verC v) 24) := ⟨_, rfl⟩
        rw [← hw7] at hz7 hr7 ht7 ho7
        have hw7' := hw7.symm
        have c74 : w7.cell? ⟨w6.heap.size, 4, none⟩ = some (.int .i64 v.cnt) := (ho7.cell 4).trans rfl
        have f74 := ho7.frozen 4
        have ho8 := ho7.setCell (i := 4) (.int .i64 4)
        have c85 : (w7.setCell ⟨w6.heap.size, 4, none⟩ (.int .i64 4)).cell? ⟨w6.heap.size, 5, none⟩ = some (.string v.tag) := (ho8.cell 5).trans rfl
        have f85 := ho8.frozen 5
        have ho9 := ho8.setCell (i := 5) (.string tg)
        have hb9 : Below w6.heap.size w7 ((w7.setCell ⟨w6.heap.size, 4, none⟩ (.int .i64 4)).setCell ⟨w6.heap.size, 5, none⟩ (.string tg)) := (below_set (Nat.le_refl _) _ _).trans (below_set (Nat.le_refl _) _ _)
        have hO9 : BkO w ((w7.setCell ⟨w6.heap.size, 4, none⟩ (.int .i64 4)).setCell ⟨w6.heap.size, 5, none⟩ (.string tg)) v r0 r1 r2 r3 gv gr w5.heap.size w6.heap.size m := by
          have hlv := hz7.lv
          refine ⟨⟨hz7.ver.below hb9 hl7, hz7.rest.below hb9 hl7', hz7.bel.trans (hb9.mono (by omega)), hz7.lv, hz7.lr, hz7.ne⟩, hr7.below hb9 (by omega), ⟨⟨v.n0, v.n1, v.n2, v.n3, 4, tg⟩, ho9, fun j hj => ?_⟩, ht7.keep hb9 (by have := HT.out.lt; omega), ⟨by omega, by omega, by omega, by omega⟩, HT.out.lt⟩
          have hj4 : j < 4 := by omega
          match j, hj4 with
          | 0, _ => rfl
          | 1, _ => rfl
          | 2, _ => rfl
          | 3, _ => rfl
        obtain ⟨w8, hw8⟩ : ∃ x, x = w7.setCell ⟨w6.heap.size, 4, none⟩ (.int .i64 4) := ⟨_, rfl⟩
        rw [← hw8] at hO9 c85 f85
        have hw8' := hw8.symm
        obtain ⟨w9, hw9⟩ : ∃ x, x = w8.setCell ⟨w6.heap.size, 5, none⟩ (.string tg) := ⟨_, rfl⟩
        rw [← hw9] at hO9
        have hw9' := hw9.symm
        have HO9 : Hid (BkO w w9 v r0 r1 r2 r3 gv gr w5.heap.size w6.heap.size m) := hO9
        have HV6 : Hid (Row w6 gv (verC v) 24) := hz6.ver
        clear hbu hb5 hz6 hr6 ht6 hs6 hw6 hb7 hz7 hr7 ht7 ho7 hl7 hl7' hw7 ho8 ho9 hb9 hO9 hw8 hw9 hx
        go_wp2_with (first | refine wpList_store_new rfl 24 _ _ rfl w5 zeroC (verC (bumpV v m)) 24 rfl w5.heap.size rfl rfl rfl infoVs rfl (verC_one _) ?_ | refine wpList_store_new rfl 24 _ _ rfl w6 zeroC (verC v) 24 rfl w6.heap.size rfl rfl rfl infoVs rfl (verC_one _) ?_ | refine wpList_load_row rfl 24 _ rfl gv rfl 24 (verC v) (0, 0) _ HV6.out Tryd.underlying24 rfl infoVs ?_)
        clear hw6' hw7' c74 f74 f85 c85 hw8' hw9' HV6
        go_loopw [13] (fun i wr => ∃ k : Nat, m ≤ k ∧ k ≤ 4 ∧ i = .int .i64 k ∧ BkO w wr v r0 r1 r2 r3 gv gr w5.heap.size w6.heap.size m) (fun i _ => 4 - (intOf i).toNat)
        case atStart => exact ⟨m, Nat.le_refl _, hm4.2, rfl, HO9.out⟩
        case round =>
          obtain ⟨k, hk1, hk2, rfl, hO⟩ := hrel
          have HO : Hid (BkO w wr v r0 r1 r2 r3 gv gr w5.heap.size w6.heap.size m) := hO
          clear hO
          by_cases hlt : k < 4
          · have hlt' : (k : Int) < 4 := by omega
            obtain ⟨x, hx⟩ : ∃ x, wr.cell? ⟨gr, k, none⟩ = some (.int .i64 x) := by
              rw [HO.out.k.rest.cell k]
              match k, hlt with
              | 0, _ => exact ⟨_, rfl⟩
              | 1, _ => exact ⟨_, rfl⟩
              | 2, _ => exact ⟨_, rfl⟩
              | 3, _ => exact ⟨_, rfl⟩
            obtain ⟨y, hy⟩ : ∃ y, y = bits .and .i64 x 65535 := ⟨_, rfl⟩
            have hy' := hy.symm
            obtain ⟨o, ho1, ho2⟩ := HO.out.o
            obtain ⟨z, hz⟩ : ∃ z, wr.cell? ⟨w6.heap.size, k, none⟩ = some z := by
              rw [ho1.cell k]
              match k, hlt with
              | 0, _ => exact ⟨_, rfl⟩
              | 1, _ => exact ⟨_, rfl⟩
              | 2, _ => exact ⟨_, rfl⟩
              | 3, _ => exact ⟨_, rfl⟩
            have hfz := ho1.frozen k
            have HN : Hid (BkO w (wr.setCell ⟨w6.heap.size, k, none⟩ (.int .i64 y)) v r0 r1 r2 r3 gv gr w5.heap.size w6.heap.size m) := HO.out.set ⟨hk1, hlt⟩ y
            clear ho1 ho2 hy
            go_wp2
            go_roundw
            case rel => exact ⟨k + 1, by omega, by omega, by go_num, HN.out⟩
            case measure => simp [intOf]; omega
          · have hlt' : ¬ (k : Int) < 4 := by omega
            obtain ⟨o, ho1, ho2⟩ := HO.out.o
            have HO1 : Hid (Row wr w6.heap.size (verC o) 24) := ho1
            have HAB : Hid (cmpV (bumpV v m) o = 1) := bump_above v o m hm4 ho2
            have HAV : Hid (cmpV (bumpV v m) v = 1) := bump_above v v m hm4 (fun _ _ => rfl)
            have htx2 := text_ok o wr HO.out.tab
            clear ho1 ho2
            cases hmo : mayV o with
            | false =>
              rw [textE_no hmo] at htx2
              clear hmo
              go_wp2_with (refine wpList_load_row rfl 24 _ rfl w6.heap.size rfl 24 (verC o) (0, 0) _ HO1.out Tryd.underlying24 rfl infoVs ?_)
              refine htx2.mono ?_
              rintro e wy ⟨rfl, hby⟩
              have HB : Hid (Below w.heap.size w wy) := (BkO.next HO.out hby).k.bel
              clear htx2 hby
              go_wp2
              go_ret
              exact ⟨rfl, HB.out⟩
            | true =>
              rw [textE_yes hmo] at htx2
              clear hmo
              go_wp2_with (refine wpList_load_row rfl 24 _ rfl w6.heap.size rfl 24 (verC o) (0, 0) _ HO1.out Tryd.underlying24 rfl infoVs ?_)
              refine htx2.mono ?_
              rintro e wy ⟨rfl, hby⟩
              have hOy := BkO.next HO.out hby
              have HOy : Hid (BkO w wy v r0 r1 r2 r3 gv gr w5.heap.size w6.heap.size m) := hOy
              have HO1y : Hid (Row wy w6.heap.size (verC o) 24) := Row.below HO1.out hby (Row.lt HO1.out)
              clear htx2 hby hOy
              obtain ⟨b, hbv⟩ : ∃ b, b = bumpV v m := ⟨_, rfl⟩
              have hrb := BkO.b HOy.out
              rw [← hbv] at hrb HAB HAV
              have HRb : Hid (Row wy w5.heap.size (verC b) 24) := hrb
              have hc1 := compare_any b o wy
              rw [HAB.out] at hc1
              clear hrb hbv
              go_wp2_with (first | refine wpList_load_wanted (by rfl) 24 _ rfl w5.heap.size rfl 24 (verC b) _ HRb.out Tryd.underlying24 rfl infoVs ?_ | refine wpList_load_wanted (by rfl) 24 _ rfl w6.heap.size rfl 24 (verC o) _ HO1y.out Tryd.underlying24 rfl infoVs ?_)
              refine hc1.mono ?_
              rintro e wz ⟨rfl, hbz⟩
              have HRbz : Hid (Row wz w5.heap.size (verC b) 24) := Row.below HRb.out hbz (Row.lt HRb.out)
              have hOz := BkO.next HOy.out hbz
              have HVz : Hid (Row wz gv (verC v) 24) := hOz.k.ver
              have HBz : Hid (Below w.heap.size w wz) := hOz.k.bel
              have hc2 := compare_any b v wz
              rw [HAV.out] at hc2
              clear hc1 hbz hOz
              go_wp2_with (first | refine wpList_load_wanted (by rfl) 24 _ rfl w5.heap.size rfl 24 (verC b) _ HRbz.out Tryd.underlying24 rfl infoVs ?_ | refine wpList_load_wanted (by rfl) 24 _ rfl gv rfl 24 (verC v) _ HVz.out Tryd.underlying24 rfl infoVs ?_)
              refine hc2.mono ?_
              rintro e wq ⟨rfl, hbq⟩
              have HBq : Hid (Below w.heap.size w wq) := HBz.out.trans (hbq.mono HBz.out.size)
              clear hc2 hbq
              go_wp2
              go_ret
              exact ⟨rfl, HBq.out⟩
end Go.Proofs.YthhcpnlpkomoiaaDoor
