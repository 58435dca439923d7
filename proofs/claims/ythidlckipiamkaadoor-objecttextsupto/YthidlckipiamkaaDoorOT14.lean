/- My own work: the three closures of the program's Read in a loop's memory; the map that holds them. -/
import Derived.Test.YthidlckipiamkaaDoorOT13
import Derived.WideMake
namespace Go.Proofs.YthidlckipiamkaaDoor
open Go.RowKit
open S2 (bl bl_len bl_inj)
attribute [local go_sem] Oper.semAt_some

/-- Below b nothing but the block g lies otherwise; what is no cells lies as it lay. -/
structure Say (b g : Nat) (A B : World) : Prop where
  os : B.os = A.os
  tape : B.tape = A.tape
  output : B.output = A.output
  size : A.heap.size ≤ B.heap.size
  blk : ∀ k, k < b → k ≠ g → B.heap[k]? = A.heap[k]?
  oth : ∀ (k : Nat) (o : Obj), A.heap[k]? = some o → o.isCells = false → B.heap[k]? = some o
theorem lt_of_some {A : World} {k : Nat} {o : Obj} (h : A.heap[k]? = some o) : k < A.heap.size := (Array.getElem?_eq_some_iff.1 h).1
theorem Say.of_below {b g : Nat} {A B : World} (h : Below A.heap.size A B) (hb : b ≤ A.heap.size) : Say b g A B := ⟨h.os, h.tape, h.output, h.size, fun k hk _ => h.block k (by omega), fun k _ hk _ => (h.block k (lt_of_some hk)).trans hk⟩
theorem Say.trans {b g : Nat} {A B C : World} (h : Say b g A B) (k : Say b g B C) : Say b g A C := ⟨k.os.trans h.os, k.tape.trans h.tape, k.output.trans h.output, Nat.le_trans h.size k.size, fun i hi hg => (k.blk i hi hg).trans (h.blk i hi hg), fun i o hi ho => k.oth i o (h.oth i o hi ho) ho⟩
theorem Say.setCell {b g i : Nat} {A : World} {C : Array Value} {t : TypeId} (hr : Row A g C t) (x : Value) : Say b g A (A.setCell ⟨g, i, none⟩ x) :=
  ⟨rfl, rfl, rfl, by simp, fun k _ hg => heap_setCell_other A ⟨g, i, none⟩ k x hg, fun k o hk ho => (heap_setCell_other A ⟨g, i, none⟩ k x (fun e => by
    subst e
    have hr' : A.heap[k]? = some (.cells C t (0, 0)) := hr
    rw [hr'] at hk
    cases hk
    cases ho)).trans hk⟩
theorem Say.grown {b g s n : Nat} {A B : World} {e : TypeId} {v : Value} {xs : List Value} (own : A.ownsRow b e s v n xs) (hb : b ≤ A.heap.size) (hg : A.grownBy B v.ownBlock) : Say b g A B :=
  ⟨hg.os, hg.tape, hg.output, hg.size, fun k hk _ => hg.block k (by omega) (fun e1 => by have := (ownsRow_lt own k e1.symm).2.1; omega), fun k o hk ho => (hg.block k (lt_of_some hk) (fun e1 => by
    obtain ⟨_, _, c2, r2⟩ := ownsRow_lt own k e1.symm
    have r2' : A.heap[k]? = some (.cells c2 e (0, 0)) := r2
    rw [r2'] at hk
    cases hk
    cases ho)).trans hk⟩
/-- The info as it lies in the loop. -/
structure DB (b g : Nat) (p h d : ByteArray) (rs : List ByteArray) (v : Value) (wx : World) : Prop where
  row : Row wx g #[.string p, .string h, .string d, v] 24
  own : wx.ownsRow b 9 1 v rs.length (rs.map Value.string)
  lt : g < b
  le : b ≤ wx.heap.size
section
variable {b g : Nat} {p h d : ByteArray} {rs : List ByteArray} {v : Value} {wx : World}
theorem DB.of_below (H : DB b g p h d rs v wx) {w' : World} (hb : Below wx.heap.size wx w') : DB b g p h d rs v w' := ⟨H.row.below hb H.row.lt, own_belowR H.own hb, H.lt, Nat.le_trans H.le hb.size⟩
theorem DB.own_set (H : DB b g p h d rs v wx) (k i : Nat) (hk : k < b) (x : Value) : (wx.setCell ⟨k, i, none⟩ x).ownsRow b 9 1 v rs.length (rs.map Value.string) :=
  ownsRow_keep H.own fun q hq _ => heap_setCell_other wx ⟨k, i, none⟩ q x (by have := (ownsRow_lt H.own q hq).2.1; show q ≠ k; omega)
theorem DB.setH (H : DB b g p h d rs v wx) (x : ByteArray) : DB b g p x d rs v (wx.setCell ⟨g, 1, none⟩ (.string x)) := ⟨H.row.setCell (i := 1) (.string x), H.own_set g 1 H.lt _, H.lt, by simpa using H.le⟩
theorem DB.setD (H : DB b g p h d rs v wx) (x : ByteArray) : DB b g p h x rs v (wx.setCell ⟨g, 2, none⟩ (.string x)) := ⟨H.row.setCell (i := 2) (.string x), H.own_set g 2 H.lt _, H.lt, by simpa using H.le⟩
theorem DB.other (H : DB b g p h d rs v wx) {k i : Nat} (hk : k < b) (hg : g ≠ k) (x : Value) : DB b g p h d rs v (wx.setCell ⟨k, i, none⟩ x) := ⟨H.row.setCell_other hg x, H.own_set k i hk x, H.lt, by simpa using H.le⟩
theorem DB.drew (H : DB b g p h d rs v wx) : DB b g p h d rs v wx.drew := ⟨H.row, H.own, H.lt, H.le⟩
theorem DB.grown (H : DB b g p h d rs v wx) {w' : World} {row : Option Nat} (hg : wx.grownBy w' row) (hr : ∀ r, row = some r → b ≤ r ∧ ∃ o : Obj, wx.heap[r]? = some o ∧ o.isCells = false) : DB b g p h d rs v w' :=
  ⟨(hg.block g H.row.lt (fun e => by have := (hr g e.symm).1; have := H.lt; omega)).trans H.row, ownsRow_keep H.own (fun q hq hl => hg.block q hl (fun e => by
    obtain ⟨_, _, c2, r2⟩ := ownsRow_lt H.own q hq
    obtain ⟨_, o, ho, hc⟩ := hr q e.symm
    have r2' : wx.heap[q]? = some (.cells c2 9 (0, 0)) := r2
    rw [r2'] at ho
    cases ho
    cases hc)), H.lt, Nat.le_trans H.le hg.size⟩
end
set_option maxHeartbeats 1000000 in
theorem sayB_hash (b g : Nat) (p h d x : ByteArray) (rs : List ByteArray) (v : Value) (wx : World) (H : DB b g p h d rs v wx) : Calls Tryd.prog 14 #[.string x, .pointer (some ⟨g, 0, none⟩)] wx fun e w' => (∃ r, e = .returned r) ∧ DB b g p x d rs v w' ∧ Say b g wx w' := by
  have q1 := (H.row.cell 1).trans (rfl : _ = some (Value.string h))
  have f1 := H.row.frozen 1
  have HD : Hid _ := H.setH x
  have HS : Hid (Say b g wx (wx.setCell ⟨g, 1, none⟩ (.string x))) := Say.setCell H.row _
  clear H
  go_enter Tryd.func14, Tryd.ntmps14
  go_wp2
  refine bodyPost_end (results_none rfl _ _ _) rfl ?_
  exact ⟨⟨_, rfl⟩, HD.out, HS.out⟩
set_option maxHeartbeats 1000000 in
theorem sayB_der (b g : Nat) (p h d x : ByteArray) (rs : List ByteArray) (v : Value) (wx : World) (H : DB b g p h d rs v wx) : Calls Tryd.prog 15 #[.string x, .pointer (some ⟨g, 0, none⟩)] wx fun e w' => (∃ r, e = .returned r) ∧ DB b g p h x rs v w' ∧ Say b g wx w' := by
  have q1 := (H.row.cell 2).trans (rfl : _ = some (Value.string d))
  have f1 := H.row.frozen 2
  have HD : Hid _ := H.setD x
  have HS : Hid (Say b g wx (wx.setCell ⟨g, 2, none⟩ (.string x))) := Say.setCell H.row _
  clear H
  go_enter Tryd.func15, Tryd.ntmps15
  go_wp2
  refine bodyPost_end (results_none rfl _ _ _) rfl ?_
  exact ⟨⟨_, rfl⟩, HD.out, HS.out⟩
set_option maxHeartbeats 2000000 in
theorem sayB_ref (b g : Nat) (p h d x : ByteArray) (rs : List ByteArray) (v : Value) (wx : World) (H : DB b g p h d rs v wx) (hl : rs.length ≤ 1048576) : Calls Tryd.prog 16 #[.string x, .pointer (some ⟨g, 0, none⟩)] wx fun e w' => (∃ r, e = .returned r) ∧ (∃ v', DB b g p h d (rs ++ [x]) v' w') ∧ Say b g wx w' := by
  obtain ⟨ra, rc, rfl⟩ := refs_slice H.own
  have q1 := (H.row.cell 3).trans (rfl : _ = some (Value.slice ra rs.length rc))
  have hba : Below wx.heap.size wx (wx.alloc (.cells #[.string x] 9)) := (Below.refl _ _).alloc (Nat.le_refl _) _
  have hle : b ≤ wx.heap.size := H.le
  have HG : Hid (DB b g p h d rs (.slice ra rs.length rc) (wx.alloc (.cells #[.string x] 9)) ∧ Say b g wx (wx.alloc (.cells #[.string x] 9))) := ⟨H.of_below hba, Say.of_below hba hle⟩
  clear H
  go_enter Tryd.func16, Tryd.ntmps16
  go_wp2_with (
    at_builtin
    refine wpList_plain rfl fun K' hK' => ?_
    refine ap_ref1 (some 7) rfl (.tmp 4) (.tmp 6) rfl b _ rs.length _ rfl x HG.out.1.own rfl hle (by omega) ?_
    intro v5 w5 hown5 hgrow5
    refine hK' _ _ ?_
    have hr3 : Row w5 g #[.string p, .string h, .string d, .slice ra rs.length rc] 24 := row_grownR HG.out.1.own hgrow5 HG.out.1.row (by decide)
    have hs3 : Say b g wx w5 := HG.out.2.trans (Say.grown HG.out.1.own HG.out.1.le hgrow5)
    have hlt := HG.out.1.lt
    have HA : Hid (DB b g p h d (rs ++ [x]) v5 (w5.setCell ⟨g, 3, none⟩ v5) ∧ Say b g wx (w5.setCell ⟨g, 3, none⟩ v5)) := ⟨⟨hr3.setCell (i := 3) v5, by
      have := ownsRow_keep (w' := w5.setCell ⟨g, 3, none⟩ v5) hown5 (fun q hq _ => heap_setCell_other w5 ⟨g, 3, none⟩ q v5 (by have := (ownsRow_lt hown5 q hq).2.1; show q ≠ g; omega))
      rw [List.length_append, List.map_append]
      exact this, hlt, by have := hs3.size; simp; omega⟩, hs3.trans (Say.setCell hr3 _)⟩
    obtain ⟨ra3, rc3, rfl⟩ := refs_slice hown5
    have q4 := (hr3.cell 3).trans (rfl : _ = some (Value.slice ra rs.length rc))
    have f4 := hr3.frozen 3
    clear hown5 hgrow5 hr3 hs3 hlt)
  refine bodyPost_end (results_none rfl _ _ _) rfl ?_
  exact ⟨⟨_, rfl⟩, ⟨_, HA.out.1⟩, HA.out.2⟩
section
variable {P : Program} {w : World}
theorem run_mapUpdate_new (mty kt et : TypeId) (r clock : Nat) (es : Array MapEntry) (s : ByteArray) (val : Value) (hm : P.underlying mty = some (.map kt et)) (hk : P.underlying kt = some .string) (hb : w.heap[r]? = some (.map es clock)) (hf : Instr.findNow .string (.string s) es.toList 0 = some none) :
    (Instr.mapUpdate mty (.map (some r)) (.string s) val).run P w = .ok () { w with heap := w.heap.setIfInBounds r (.map (es.push { key := .string s, val := val, born := clock }) (clock + 1)) } := by
  have hc : (Instr.checkKey false 10000 kt (.string s)).run P w = .ok () w := MapKept.run_checkKey (k := .string s) hk (by simp [MapKept.IsKey]) false 9999
  simp [Instr.mapUpdate, run_underlying hm, MapKept.run_getObj_map hb, hc, MapKept.run_findKey hk hf, MapKept.run_setObj_map _ hb, Result.andThen]
theorem run_lookup_some (mty kt et : TypeId) (r clock i : Nat) (es : Array MapEntry) (s : ByteArray) (val : Value) (hm : P.underlying mty = some (.map kt et)) (hk : P.underlying kt = some .string) (hb : w.heap[r]? = some (.map es clock)) (hf : Instr.findNow .string (.string s) es.toList 0 = some (some (i, val))) :
    (Instr.lookup mty (.map (some r)) (.string s) true).run P w = .ok (.tuple #[val, .bool true]) w := by
  have hc : (Instr.checkKey es.isEmpty 10000 kt (.string s)).run P w = .ok () w := MapKept.run_checkKey (k := .string s) hk (by simp [MapKept.IsKey]) _ 9999
  simp [Instr.lookup, run_underlying hm, MapKept.run_getObj_map hb, hc, MapKept.run_findKey hk hf, Result.andThen]
theorem run_lookup_none (mty kt et : TypeId) (r clock : Nat) (es : Array MapEntry) (s : ByteArray) (z : Value) (hm : P.underlying mty = some (.map kt et)) (hk : P.underlying kt = some .string) (hz : ∀ w, (zeroValue et).run P w = .ok z w) (hb : w.heap[r]? = some (.map es clock)) (hf : Instr.findNow .string (.string s) es.toList 0 = some none) :
    (Instr.lookup mty (.map (some r)) (.string s) true).run P w = .ok (.tuple #[z, .bool false]) w := by
  have hc : (Instr.checkKey es.isEmpty 10000 kt (.string s)).run P w = .ok () w := MapKept.run_checkKey (k := .string s) hk (by simp [MapKept.IsKey]) _ 9999
  simp [Instr.lookup, run_underlying hm, MapKept.run_getObj_map hb, hc, MapKept.run_findKey hk hf, hz, Result.andThen]
end
/-- The three words and what they say. -/
def says (g : Nat) : Array MapEntry := #[⟨.string ⟨#[104, 97, 115, 104]⟩, .func (.func 14) #[] #[.pointer (some ⟨g, 0, none⟩)], 0⟩, ⟨.string ⟨#[100, 101, 114, 105, 118, 101, 114]⟩, .func (.func 15) #[] #[.pointer (some ⟨g, 0, none⟩)], 1⟩, ⟨.string ⟨#[114, 101, 102]⟩, .func (.func 16) #[] #[.pointer (some ⟨g, 0, none⟩)], 2⟩]
theorem str_beq (a b : ByteArray) : (a == b) = decide (bl a = bl b) := by
  by_cases h : bl a = bl b
  · rw [decide_eq_true h, bl_inj h]
    exact (MapKept.bytes_beq b b).2 rfl
  · rw [decide_eq_false h]
    cases he : (a == b) with
    | false => rfl
    | true => exact absurd (by rw [(MapKept.bytes_beq a b).1 he]) h
/-- Which of them a word is. -/
theorem says_find (g : Nat) (x : ByteArray) : Instr.findNow .string (.string x) (says g).toList 0 = some (if bl x = WH then some (0, .func (.func 14) #[] #[.pointer (some ⟨g, 0, none⟩)]) else if bl x = WD then some (1, .func (.func 15) #[] #[.pointer (some ⟨g, 0, none⟩)]) else if bl x = WR then some (2, .func (.func 16) #[] #[.pointer (some ⟨g, 0, none⟩)]) else none) := by
  have e1 : (x == (⟨#[104, 97, 115, 104]⟩ : ByteArray)) = decide (bl x = WH) := str_beq _ _
  have e2 : (x == (⟨#[100, 101, 114, 105, 118, 101, 114]⟩ : ByteArray)) = decide (bl x = WD) := str_beq _ _
  have e3 : (x == (⟨#[114, 101, 102]⟩ : ByteArray)) = decide (bl x = WR) := str_beq _ _
  unfold says
  by_cases h1 : bl x = WH
  · rw [if_pos h1]
    rw [decide_eq_true h1] at e1
    simp [Instr.findNow, Instr.sameNow, e1]
  · rw [if_neg h1]
    rw [decide_eq_false h1] at e1
    by_cases h2 : bl x = WD
    · rw [if_pos h2]
      rw [decide_eq_true h2] at e2
      simp [Instr.findNow, Instr.sameNow, e1, e2]
    · rw [if_neg h2]
      rw [decide_eq_false h2] at e2
      by_cases h3 : bl x = WR
      · rw [if_pos h3]
        rw [decide_eq_true h3] at e3
        simp [Instr.findNow, Instr.sameNow, e1, e2, e3]
      · rw [if_neg h3]
        rw [decide_eq_false h3] at e3
        simp [Instr.findNow, Instr.sameNow, e1, e2, e3]
section
variable {F : Fence} {nF : Nat} {ops : Array Oper} {rest : List Oper} {o : Oper} {a : Act} {w : World} {Q : Exit → Act → World → Prop}
theorem loadInI (hgd : o.guard = none) (x : Operand) (ho : o.op = .load 24 x) (g : Nat) (hx : a.eval x = .pointer (some ⟨g, 0, none⟩)) (t : TypeId) (C : Array Value)
    (hg : Row w g C t) (hC : C.size = 4) (hK : wpListIn F nF Tryd.prog ops Q rest (a.put o.dst (.agg C)) w) : wpListIn F nF Tryd.prog ops Q (o :: rest) a w := by
  refine wpListIn_plain hgd fun K' hK' => ?_
  unfold Oper.wpIn
  refine ⟨by simp [Oper.about, ho], ?_⟩
  rw [Oper.semAt_plain F _ _ (by rw [ho]; intro c hc'; cases hc')]
  unfold execOp
  simp only [ho, hx, Instr.loadAt, Instr.sureAddr, Sem.run_bind, Sem.run_pure, Result.andThen_ok, run_loadVar_row w g t 24 C (0, 0) _ hg Tryd.underlying24 rfl (by rw [infoI, hC])]
  exact hK' _ _ hK
theorem storeInI (hgd : o.guard = none) (x y : Operand) (ho : o.op = .store 24 x y) (g : Nat) (hx : a.eval x = .pointer (some ⟨g, 0, none⟩)) (t : TypeId) (C C' : Array Value) (hy : a.eval y = .agg C')
    (hg : Row w g C t) (hC : C.size = 4) (hC' : C'.size = 4) (h1 : C'.all (·.oneCell') = true) (hd : o.dst = none) (hK : wpListIn F nF Tryd.prog ops Q rest a (w.setRow g C')) : wpListIn F nF Tryd.prog ops Q (o :: rest) a w := by
  refine wpListIn_plain hgd fun K' hK' => ?_
  unfold Oper.wpIn
  refine ⟨by simp [Oper.about, ho], ?_⟩
  rw [Oper.semAt_plain F _ _ (by rw [ho]; intro c hc'; cases hc')]
  unfold execOp
  simp only [ho, hx, hy, Instr.storeAt, Instr.sureAddr, Sem.run_bind, Sem.run_pure, Result.andThen_ok, run_storeVar_row w g t 24 C C' hg (by rw [infoI, hC']) (by rw [hC, hC']) h1]
  exact hK' _ _ (by rw [hd]; exact hK)
end
end Go.Proofs.YthidlckipiamkaaDoor
