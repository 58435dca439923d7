/- My own work: the walk of Text. -/
import Derived.Test.YtkbhckjpmgkgjaaGreatDoorVAp
import Derived.Test.YtkbhckjpmgkgjaaGreatDoorShV
import Derived.Lib.LaidTab
namespace Go.Proofs.YtkbhckjpmgkgjaaGreatDoor
open Go.RowKit Go.Shelf

/-- Bytes as a text. -/
def tx (l : By) : ByteArray := ⟨l.toArray⟩
theorem tx_size (l : By) : (tx l).size = l.length := by simp [tx, ByteArray.size]
theorem vb_tx (l : By) : vb (tx l) = l := by simp [tx]
theorem tx_vb (s : ByteArray) : tx (vb s) = s := vb_inj (vb_tx _)
theorem tx_add (a b : By) : tx a ++ tx b = tx (a ++ b) := by
  unfold tx
  rw [ByteArray.mk_append_mk]
theorem run_cat (a b : By) (w : World) (h : a.length + b.length ≤ 9223372036854775807) : (Op.stringOp .add (tx a) (tx b)).run Tryz.prog w = .ok (.string (tx (a ++ b))) w := by
  rw [run_string_add_sum w _ _ (by rw [tx_size, tx_size]; exact h), tx_add]
theorem exec_cat (o : Oper) (act : Act) (x y : Operand) (ho : o.op = .binOp .add 9 x y 9) (a b : By) (hx : act.eval x = .string (tx a)) (hy : act.eval y = .string (tx b)) (h : a.length + b.length ≤ 9223372036854775807) (w : World) : (execOp act.eval o).run Tryz.prog w = .ok (.value (.string (tx (a ++ b)))) w := by
  have hr := run_cat a b w h
  unfold execOp
  simp only [ho, hx, hy]
  rw [show binOp .add 9 (.string (tx a)) (.string (tx b)) = Op.stringOp .add (tx a) (tx b) by simp [binOp]]
  rw [show eqGuard .add 9 x y (.string (tx a)) (.string (tx b)) = pure () from rfl]
  simp only [Sem.run_bind, Sem.run_pure, Result.andThen_ok, hr]
section
variable {w : World} {ops : Array Oper} {rest : List Oper} {o : Oper} {act : Act} {Q : Exit → Act → World → Prop}
theorem wp_cat (hgd : o.guard = none) (x y : Operand) (ho : o.op = .binOp .add 9 x y 9) (a b : By) (hx : act.eval x = .string (tx a)) (hy : act.eval y = .string (tx b)) (h : a.length + b.length ≤ 9223372036854775807)
    (k : wpList Tryz.prog ops Q rest (act.put o.dst (.string (tx (a ++ b)))) w) : wpList Tryz.prog ops Q (o :: rest) act w :=
  wpList_plain hgd fun _ hK => by
    unfold Oper.wp
    rw [exec_cat o act x y ho a b hx hy h w]
    exact hK _ _ k
end
/-- The table of tens stands. -/
def Pw (w : World) : Prop := Lib.TabIs Tryz.prog w "internal/strconv.uint64pow10" .u64 Lib.pow10Tab
theorem gPw : Tryz.prog.globalNamed "internal/strconv.uint64pow10" = some 2 := by kernel_rfl
theorem Pw.lt {w : World} (h : Pw w) : 2 < w.heap.size := by
  unfold Pw Lib.TabIs World.var? at h
  rw [gPw] at h
  simp only [Option.bind_some] at h
  refine Nat.lt_of_not_le fun k => ?_
  rw [Array.getElem?_eq_none k] at h
  cases h
theorem Pw.keep {w w' : World} {B : Nat} (h : Pw w) (hb : Below B w w') (hB : 2 < B) : Pw w' := by
  unfold Pw Lib.TabIs World.var? at h ⊢
  rw [gPw] at h ⊢
  simp only [Option.bind_some] at h ⊢
  rw [hb.block _ hB]
  exact h
theorem below_grow (w : World) (q : Nat) (os : Array Obj) : Below w.heap.size w (Go.Sort.grow (w.drewN q) os) := by
  refine ⟨rfl, rfl, rfl, ?_, fun k hk => ?_⟩
  · show w.heap.size ≤ (w.heap ++ os).size
    rw [Array.size_append]
    omega
  · show (w.heap ++ os)[k]? = _
    exact Array.getElem?_append_left hk
theorem itoa_ok (n : Int) (h0 : 0 ≤ n) (h1 : n ≤ 999999999) (w : World) (hT : Pw w) : Calls Tryz.prog 96 #[.int .i64 n] w fun e w' => e = .returned (.string (tx (Lib.itoa n))) ∧ Below w.heap.size w w' := by
  refine (Any.strconv_Itoa Tryz.laysM171 n (by omega) (by omega) w hT).mono ?_
  rintro e w' ⟨rfl, k, os, rfl⟩
  exact ⟨rfl, below_grow w k os⟩
theorem Builder_Extra_156 : Builder.Extra Tryz.prog Tryz.lays156_ren := {
  sizeBuilder := by kernel_rfl
  liesBuilder := by kernel_rfl
  t5 := Tryz.underlying5
  a5 := Tryz.isAgg5
  z5 := Tryz.sizeOf5
  v5 := Tryz.zeroValue5
  infoByte := by kernel_rfl
  cellsByte := by kernel_rfl
  sizeByte := by kernel_rfl
  neB5 := by decide }
/-- The k-th number as a text. -/
def partB (v : Ver) (k : Nat) : ByteArray := tx (Lib.itoa (nAt v k))
theorem parts_list {v : Ver} {c : Nat} (hc : v.cnt = (c : Int)) (h4 : c ≤ 4) : partsV v = (List.range c).map fun k => Lib.itoa (nAt v k) := by
  unfold partsV numsV
  rw [hc, Int.toNat_natCast]
  have h : c = 0 ∨ c = 1 ∨ c = 2 ∨ c = 3 ∨ c = 4 := by omega
  rcases h with rfl | rfl | rfl | rfl | rfl <;> rfl
/-- What holds while the numbers are told. -/
structure TxR (w wr : World) (v : Ver) (k : Nat) (sv : Value) : Prop where
  box : Row wr w.heap.size (verC v) 112
  own : wr.ownsRow (w.heap.size + 1) 9 1 sv k ((List.range k).map fun j => Value.string (partB v j))
  bel : Below w.heap.size w wr
  tab : Pw wr
  low : w.heap.size + 1 ≤ wr.heap.size
  glob : 2 < w.heap.size
theorem own_below {w w' : World} {base n s : Nat} {e : TypeId} {v : Value} {xs : List Value} (h : w.ownsRow base e s v n xs) (hb : Below w.heap.size w w') : w'.ownsRow base e s v n xs :=
  h.kept (row := none) ⟨hb.os, hb.tape, hb.output, hb.size, fun k hk _ => hb.block k hk⟩ (by cases h : v.ownBlock with | none => exact Or.inl rfl | some k => exact Or.inr (by simp))
theorem TxR.next {w wr w' : World} {v : Ver} {k : Nat} {sv : Value} (h : TxR w wr v k sv) (hb : Below wr.heap.size wr w') : TxR w w' v k sv :=
  ⟨h.box.below hb h.box.lt, own_below h.own hb, h.bel.trans (hb.mono h.bel.size), h.tab.keep hb h.tab.lt, Nat.le_trans h.low hb.size, h.glob⟩
theorem TxR.more {w w1 w' : World} {v : Ver} {k : Nat} {sv sv' : Value} (h : TxR w w1 v k sv) (ho : w'.ownsRow (w.heap.size + 1) 9 1 sv' (k + 1) ((List.range k).map (fun j => Value.string (partB v j)) ++ [.string (partB v k)])) (hg : w1.grownBy w' sv.ownBlock) : TxR w w' v (k + 1) sv' := by
  have hlt := h.own.lt
  have hne : ∀ j, j ≤ w.heap.size → some j ≠ sv.ownBlock := fun j hj e => by
    have := (hlt j e.symm).1
    omega
  have hbl : Below w.heap.size w1 w' := ⟨hg.os, hg.tape, hg.output, hg.size, fun j hj => hg.block j (Nat.lt_of_lt_of_le hj h.bel.size) (hne j (by omega))⟩
  refine ⟨(hg.block _ h.box.lt (hne _ (Nat.le_refl _))).trans h.box, ?_, h.bel.trans hbl, h.tab.keep hbl h.glob, Nat.le_trans h.low hg.size, h.glob⟩
  rw [List.range_succ, List.map_append]
  exact ho
/-- Text's answer. -/
def textE (v : Ver) : Value := if mayV v then .tuple #[.string (tx (textV v)), .int .i64 0] else .tuple #[.string ⟨#[]⟩, .int .i64 20]
theorem textE_no {v : Ver} (h : mayV v = false) : textE v = .tuple #[.string ⟨#[]⟩, .int .i64 20] := by unfold textE; rw [h]; rfl
theorem textE_yes {v : Ver} (h : mayV v = true) : textE v = .tuple #[.string (tx (textV v)), .int .i64 0] := by unfold textE; rw [h]; rfl
theorem join_len (L : List By) (h : ∀ x ∈ L, x.length ≤ 9) : (joinP L).length ≤ 10 * L.length := by
  induction L with
  | nil => exact Nat.le_refl _
  | cons x r ih =>
    have h1 := h x (List.mem_cons_self ..)
    have h2 := ih (fun y hy => h y (List.mem_cons_of_mem _ hy))
    cases r with
    | nil => show x.length ≤ _; simp; omega
    | cons y r =>
      show (x ++ 46 :: joinP (y :: r)).length ≤ _
      rw [List.length_append, List.length_cons, List.length_cons (a := x)]
      omega
theorem join_small {v : Ver} (h : May v) : (joinP (partsV v)).length ≤ 40 := by
  have h1 := join_len (partsV v) (fun x hx => ((isNum_iff x).1 (parts_num h x hx)).1.2)
  have h2 := parts_len h
  have := h.cnt
  omega
/-- Join of the numbers' texts. -/
theorem join_ok {w wr : World} {v : Ver} {c : Nat} {sv : Value} (h : TxR w wr v c sv) (hm : May v) (hc : v.cnt = (c : Int)) : Calls Tryz.prog 97 #[sv, .string ⟨#[46]⟩] wr fun e w' => e = .returned (.string (tx (joinP (partsV v)))) ∧ Below wr.heap.size wr w' := by
  have hc1 := hm.cnt
  have hpl := parts_list hc (by omega)
  obtain ⟨hx, ⟨_, h0⟩ | ⟨g, cap, cur, rfl, h2, h3, h4, h5, h6, h7⟩⟩ := h.own
  · omega
  have hown := h.own
  have H := Any.strings_Join Tryz.lays156 Builder_Extra_156 g 0 cap ((List.range c).map (partB v)) ⟨#[46]⟩ wr (fun j x hj => by
    have hj' : j < c := by
      have := (List.getElem?_eq_some_iff.1 hj).1
      simpa using this
    rw [Nat.zero_add, hown.cellAt j (by omega), List.getElem?_map, List.getElem?_range hj']
    rw [List.getElem?_map, List.getElem?_range hj'] at hj
    simp only [Option.map_some, Option.some.injEq] at hj ⊢
    rw [hj]) (Array.getElem?_eq_some_iff.1 h3).1 (by simp; omega) (by simpa using h4) (by
      have e : ((List.range c).map (partB v)).map (fun x => x.data.toList) = partsV v := by rw [hpl, List.map_map]; rfl
      rw [e, show (⟨#[46]⟩ : ByteArray).data.toList = [46] from rfl, joinP_eq]
      have := join_small hm
      omega)
  have e : ((List.range c).map (partB v)).map (fun x => x.data.toList) = partsV v := by rw [hpl, List.map_map]; rfl
  rw [List.length_map, List.length_range, e, show (⟨#[46]⟩ : ByteArray).data.toList = [46] from rfl, joinP_eq] at H
  exact H
theorem slice_nums (c g : Nat) (hc : 1 ≤ c ∧ c ≤ 4) (w : World) : (Instr.sliceAt 102 (.pointer (some ⟨g, 0, none⟩)) none (some (.int .i64 (c : Int))) none).run Tryz.prog w = .ok (.slice (some ⟨g, 0, none⟩) c 4) w := by
  have h : c = 1 ∨ c = 2 ∨ c = 3 ∨ c = 4 := by omega
  rcases h with rfl | rfl | rfl | rfl
  · show _ = _; kernel_rfl
  · show _ = _; kernel_rfl
  · show _ = _; kernel_rfl
  · show _ = _; kernel_rfl
theorem TxR.num {w wr : World} {v : Ver} {k c : Nat} {sv : Value} (h : TxR w wr v c sv) (hk : k < 4) : wr.cell? ⟨w.heap.size, k, none⟩ = some (.int .i64 (nAt v k)) := by
  rw [h.box.cell k]
  match k, hk with
  | 0, _ => rfl
  | 1, _ => rfl
  | 2, _ => rfl
  | 3, _ => rfl
set_option maxRecDepth 20000 in
set_option maxHeartbeats 8000000 in
theorem text_ok (v : Ver) (w : World) (hT : Pw w) : Calls Tryz.prog 62 #[verV v] w fun e w' => e = .returned (textE v) ∧ Below w.heap.size w w' := by
  have hA : Row (boxW w v) w.heap.size (verC v) 112 := Row.new w (verC v) 112
  have hb1 : Below w.heap.size w (boxW w v) := (Below.refl _ _).alloc (Nat.le_refl _) _
  obtain ⟨w1, hw1⟩ : ∃ x, x = boxW w v := ⟨_, rfl⟩
  have hw1' := hw1.symm
  have hs1 : w1.heap.size = w.heap.size + 1 := by rw [hw1]; simp
  rw [← hw1] at hA hb1
  have hM := mayBe_ok v w1
  have hb2 : Below w1.heap.size w1 (boxW w1 v) := (Below.refl _ _).alloc (Nat.le_refl _) _
  obtain ⟨w2, hw2⟩ : ∃ x, x = boxW w1 v := ⟨_, rfl⟩
  rw [← hw2] at hM hb2
  have hTx : TxR w w2 v 0 (.slice none 0 0) := ⟨hA.below hb2 hA.lt, World.ownsRow_nil _ _ _ _, hb1.trans (hb2.mono hb1.size), (hT.keep hb1 hT.lt).keep hb2 (by have := hT.lt; omega), by have := hb2.size; omega, hT.lt⟩
  have HTx : Hid _ := hTx
  have hA2 := hTx.box
  clear hb1 hb2 hw1 hw2 hT hTx hs1
  cases hm : mayV v with
  | false =>
    have HE : Hid _ := textE_no hm
    rw [hm] at hM
    have HB : Hid (Below w.heap.size w w2) := TxR.bel HTx.out
    go_enter Tryz.func62, Tryz.ntmps62
    go_wp2_with (first | (go_at_call 95; refine hM.mono ?_; rintro e w9 ⟨rfl, hw9⟩; rw [hw9]; clear hw9) | refine wpList_load_row rfl 112 _ rfl w.heap.size rfl 112 (verC v) (0, 0) _ hA Tryz.underlying112 rfl infoVs ?_)
    go_ret2
    exact ⟨by rw [HE.out]; rfl, HB.out⟩
  | true =>
    have HE : Hid _ := textE_yes hm
    rw [hm] at hM
    have hmay := (mayV_iff v).1 hm
    have HMay : Hid (May v) := hmay
    obtain ⟨c, hc⟩ : ∃ c : Nat, v.cnt = (c : Int) := ⟨v.cnt.toNat, by have := hmay.cnt; omega⟩
    have hc4 : 1 ≤ c ∧ c ≤ 4 := by have := hmay.cnt; omega
    have a4 : w2.cell? ⟨w.heap.size, 4, none⟩ = some (.int .i64 (c : Int)) := (hA2.cell 4).trans (by show some (Value.int .i64 v.cnt) = _; rw [hc])
    have HC : Hid _ := hc
    have hok := ((may_all v).1 hmay).2.2
    have HOK : Hid _ := hok
    have hsl := slice_nums c w.heap.size hc4 w2
    clear hm hmay hc hok
    go_enter Tryz.func62, Tryz.ntmps62
    go_wp2_with (first | (go_at_call 95; refine hM.mono ?_; rintro e w9 ⟨rfl, hw9⟩; rw [hw9]; clear hw9) | refine wpList_load_row rfl 112 _ rfl w.heap.size rfl 112 (verC v) (0, 0) _ hA Tryz.underlying112 rfl infoVs ?_)
    clear hM hsl a4 hA hA2 hw1'
    go_loopw [4, 16] (fun sv i wr => ∃ k : Nat, k ≤ c ∧ i = .int .i64 k ∧ TxR w wr v k sv) (fun _ i _ => c - (intOf i).toNat)
    case atStart => exact ⟨0, Nat.zero_le _, rfl, HTx.out⟩
    case round =>
      obtain ⟨k, hk, rfl, hR⟩ := hrel
      have HR : Hid (TxR w wr v k u4) := hR
      clear hR
      by_cases hlt : k < c
      · have hlt' : (k : Int) < (c : Int) := by omega
        have hcell := TxR.num HR.out (k := k) (by omega)
        obtain ⟨x, hx⟩ : ∃ x, x = nAt v k := ⟨_, rfl⟩
        have hxr := HOK.out k (by omega)
        unfold OkN at hxr
        rw [← hx] at hcell hxr
        have HX : Hid (partB v k = tx (Lib.itoa x)) := by show _ = _; unfold partB; rw [hx]
        have hit := itoa_ok x hxr.1 hxr.2.1 wr (TxR.tab HR.out)
        obtain ⟨t, ht⟩ : ∃ t, t = tx (Lib.itoa x) := ⟨_, rfl⟩
        rw [← ht] at hit HX
        clear hx hxr ht
        go_wp2_with fail
        refine hit.mono ?_
        rintro e w3 ⟨rfl, hb3⟩
        have h3 := TxR.next HR.out hb3
        have h4 := h3.next ((Below.refl _ _).alloc (Nat.le_refl _) (.cells #[.string t] 9))
        have HR4 : Hid (TxR w (w3.alloc (.cells #[.string t] 9)) v k u4) := h4
        have hlow := h3.low
        clear hit hb3 h3 h4 hcell
        go_wp2_with (at_builtin; refine wpList_ap_one rfl (some 24) rfl _ _ rfl (w.heap.size + 1) u4 k ((List.range k).map fun j => Value.string (partB v j)) rfl t rfl w3.heap.size rfl (TxR.own HR4.out) rfl hlow (by omega) ?_; intro v5 w5 ho5 hg5)
        have HR5 : Hid (TxR w w5 v (k + 1) v5) := TxR.more HR4.out (by rw [HX.out]; exact ho5) hg5
        clear ho5 hg5
        go_roundw
        case rel => exact ⟨k + 1, by omega, by go_num, HR5.out⟩
        case measure => simp [intOf]; omega
      · have hlt' : ¬ (k : Int) < (c : Int) := by omega
        obtain rfl : k = c := by omega
        have hj := join_ok HR.out HMay.out HC.out
        obtain ⟨J, hJ⟩ : ∃ J, J = joinP (partsV v) := ⟨_, rfl⟩
        have hJl := join_small HMay.out
        rw [← hJ] at hj hJl
        have HJ : Hid _ := hJ
        have htag := HMay.out.tag
        clear hJ
        go_wp2_with fail
        refine hj.mono ?_
        rintro e w6 ⟨rfl, hb6⟩
        have h6 := TxR.next HR.out hb6
        have a5 : w6.cell? ⟨w.heap.size, 5, none⟩ = some (.string v.tag) := (h6.box.cell 5).trans rfl
        have HB6 : Hid (Below w.heap.size w w6) := h6.bel
        clear hj hb6 h6
        by_cases ht : vb v.tag = []
        · have e1 : v.tag.toList = [] := by rw [ByteArray.toList_eq]; exact ht
          have HV : Hid (textV v = J) := by show _ = _; unfold textV tagT; rw [if_pos ht, List.append_nil, HJ.out]
          clear ht htag
          go_wp2
          go_ret2
          exact ⟨by rw [HE.out, HV.out]; rfl, HB6.out⟩
        · have f1 := vEq_nil' ht
          have f2 := vEq_nil ht
          have HV : Hid (textV v = J ++ ([45] ++ vb v.tag)) := by show _ = _; unfold textV tagT; rw [if_neg ht, HJ.out]; rfl
          have hl : (vb v.tag).length ≤ 12 := by
            rcases htag with h | h
            · exact absurd h ht
            · unfold tagB at h
              rw [Bool.and_eq_true, decide_eq_true_eq] at h
              exact h.1.2
          have e1 : v.tag = tx (vb v.tag) := (tx_vb _).symm
          have e2 : (⟨#[45]⟩ : ByteArray) = tx [45] := rfl
          have HE1 : Hid _ := e1
          clear ht htag e1
          go_wp2_with (first | refine wp_cat rfl _ _ rfl [45] (vb v.tag) rfl (by rw [tx_vb]; rfl) (by show 1 + _ ≤ _; omega) ?_ | refine wp_cat rfl _ _ rfl J ([45] ++ vb v.tag) rfl rfl (by rw [List.length_append]; show _ + (1 + _) ≤ _; omega) ?_)
          go_ret2
          exact ⟨by rw [HE.out, HV.out]; rfl, HB6.out⟩
end Go.Proofs.YtkbhckjpmgkgjaaGreatDoor
