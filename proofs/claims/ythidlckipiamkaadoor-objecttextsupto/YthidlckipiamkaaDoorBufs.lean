/- My own work: rows of bytes of one's own that grow: by a slice, by a text, by a byte. -/
import Derived.Test.YthidlckipiamkaaDoorByts
import Derived.Deep.AppendSrc
import Derived.Lib.AppendStr
import Derived.Lib.AppendZeros
import Derived.Lib.LazyBuf
import Derived.Laws.MakeOwn
import Derived.Laws.BytesArg
import Derived.Great.BuildSlice
namespace Go.Proofs.YthidlckipiamkaaDoor
open Go.RowKit

/-- Bytes as cells. -/
def u8s (X : List UInt8) : List Value := X.map fun b => Value.int .u8 b.toNat
theorem u8s_append (X Y : List UInt8) : u8s (X ++ Y) = u8s X ++ u8s Y := by simp [u8s]
theorem u8s_length (X : List UInt8) : (u8s X).length = X.length := by simp [u8s]
theorem u8s_one (X : List UInt8) : ∀ u ∈ u8s X, u.oneCell' = true := fun u hu => by
  obtain ⟨_, _, rfl⟩ := List.mem_map.1 hu
  rfl
theorem row_apart {w : World} {k k' : Nat} {C C' : Array Value} {t t' : TypeId} (h : Row w k C t) (h' : Row w k' C' t') (ht : t ≠ t') : k ≠ k' := fun e => by
  subst e
  have := h.symm.trans h'
  simp at this
  exact ht this.2
/-- A row of bytes of one's own. -/
abbrev Buf (w : World) (B : Nat) (v : Value) (X : List UInt8) : Prop := w.ownsRow B 5 1 v X.length (u8s X)
/-- It has become another one, and nothing else has changed. -/
structure More (B : Nat) (w : World) (v : Value) (w' : World) (v' : Value) (Z : List UInt8) : Prop where
  buf : Buf w' B v' Z
  grown : w.grownBy w' v.ownBlock
  new : v'.ownBlock = v.ownBlock ∨ ∃ k, v'.ownBlock = some k ∧ w.heap.size ≤ k
theorem below_new {a w : World} (h : Below a.heap.size a w) (o : Obj) : Below a.heap.size a (w.alloc o) := h.alloc h.size o
theorem below_next {a w w' : World} (h : Below a.heap.size a w) (h' : Below w.heap.size w w') : Below a.heap.size a w' := h.trans (h'.mono h.size)
theorem Buf.keep {w w' : World} {B : Nat} {v : Value} {X : List UInt8} (h : Buf w B v X) (hb : Below w.heap.size w w') : Buf w' B v X :=
  ownsRow_keep h fun k hk _ => hb.block k (ownsRow_lt h k hk).1
theorem Below.grownBy {w w' : World} (hb : Below w.heap.size w w') (r : Option Nat) : w.grownBy w' r := ⟨hb.os, hb.tape, hb.output, hb.size, fun k hk _ => hb.block k hk⟩
theorem grown_trans {w w1 w2 : World} {r r1 : Option Nat} (h1 : w.grownBy w1 r) (hr : r1 = r ∨ ∃ k, r1 = some k ∧ w.heap.size ≤ k) (h2 : w1.grownBy w2 r1) : w.grownBy w2 r :=
  ⟨h2.os.trans h1.os, h2.tape.trans h1.tape, h2.output.trans h1.output, Nat.le_trans h1.size h2.size, fun k hk hne => by
    have hs := h1.size
    refine (h2.block k (by omega) ?_).trans (h1.block k hk hne)
    rcases hr with e | ⟨q, e, hq⟩
    · rw [e]; exact hne
    · rw [e]; intro e1; simp only [Option.some.injEq] at e1; omega⟩
theorem More.trans {B : Nat} {w w1 w2 : World} {v v1 v2 : Value} {X Y : List UInt8} (h1 : More B w v w1 v1 X) (h2 : More B w1 v1 w2 v2 Y) : More B w v w2 v2 Y :=
  ⟨h2.buf, grown_trans h1.grown h1.new h2.grown, by
    have hs := h1.grown.size
    rcases h2.new with e | ⟨k, e, hk⟩
    · rw [e]; exact h1.new
    · exact .inr ⟨k, e, by omega⟩⟩
/-- Ahead of it something else was made. -/
theorem More.after {B : Nat} {w w1 w2 : World} {v v2 : Value} {Y : List UInt8} (hb : Below w.heap.size w w1) (h2 : More B w1 v w2 v2 Y) : More B w v w2 v2 Y :=
  ⟨h2.buf, grown_trans (Below.grownBy hb v.ownBlock) (.inl rfl) h2.grown, by
    have hs := hb.size
    rcases h2.new with e | ⟨k, e, hk⟩
    · exact .inl e
    · exact .inr ⟨k, e, by omega⟩⟩
theorem More.refl {B : Nat} {w : World} {v : Value} {X : List UInt8} (h : Buf w B v X) : More B w v w v X := ⟨h, ⟨rfl, rfl, rfl, Nat.le_refl _, fun _ _ _ => rfl⟩, .inl rfl⟩
/-- What lay below the row's base stays. -/
theorem More.below {B : Nat} {w w' : World} {v v' : Value} {X Z : List UInt8} (h : More B w v w' v' Z) (h0 : Buf w B v X) (hB : B ≤ w.heap.size) : Below B w w' :=
  own_grown h0 (Below.refl B w) hB h.grown
/-- Rows of other elements stay. -/
theorem More.row {B : Nat} {w w' : World} {v v' : Value} {X Z : List UInt8} (h : More B w v w' v' Z) (h0 : Buf w B v X) {k : Nat} {C : Array Value} {t : TypeId} (hr : Row w k C t) (ht : t ≠ 5) : Row w' k C t :=
  (h.grown.block k hr.lt (fun e1 => by
    obtain ⟨_, _, c2, r2⟩ := ownsRow_lt h0 k e1.symm
    exact row_apart hr r2 ht rfl)).trans hr

section
variable {P : Program} (w : World)
/-- 'append', onto a row of bytes of one's own, of whatever yields bytes. -/
theorem run_append_src (B : Nat) (t tx ty : TypeId) (i : TypeInfo) (ht : P.underlying t = some (.slice 5)) (hi : P.info? 5 = some i) (hz : i.zero = some (.int .u8 0)) (hsize : i.size = 1) (hby : i.bytes = 1)
    (v : Value) (X : List UInt8) (hown : Buf w B v X) (x : Value) (Y : List UInt8) (hs : Src P 1 tx x Y.length (u8s Y) w) (hln : X.length + Y.length ≤ 140737488355328) (hB : B ≤ w.heap.size) :
    ∃ v' w', (Builtin.append_ #[t, tx] ty #[v, x]).run P w = .ok v' w' ∧ More B w v w' v' (X ++ Y) := by
  have h63 : X.length + Y.length ≤ maxLen := by unfold maxLen; omega
  have hlen : (u8s (X ++ Y)).length = (X ++ Y).length * 1 := by rw [u8s_length, Nat.mul_one]
  have hlen2 : (X ++ Y).length = X.length + Y.length := List.length_append
  have grown : ∀ (old : Nat), ∀ (row : Option Nat),
      (w.drew.alloc (.cells ((u8s X ++ u8s Y).toArray ++ Builtin.zeroCells (Value.int .u8 0).cells (grownCap w (X.length + Y.length) old 5 - (X.length + Y.length))) 5)).ownsRow B 5 1
        (.slice (some ⟨w.heap.size, 0, none⟩) (X.length + Y.length) (grownCap w (X.length + Y.length) old 5)) (X ++ Y).length (u8s (X ++ Y)) ∧
      w.grownBy (w.drew.alloc (.cells ((u8s X ++ u8s Y).toArray ++ Builtin.zeroCells (Value.int .u8 0).cells (grownCap w (X.length + Y.length) old 5 - (X.length + Y.length))) 5)) row := by
    intro old row
    have hge := grownCap_ge w (X.length + Y.length) old 5
    have hcm : grownCap w (X.length + Y.length) old 5 ≤ maxLen := grownCap_le_maxLen w _ old 5 h63
    refine ⟨⟨hlen, .inr ⟨w.heap.size, _, _, by rw [hlen2], hB, heap_alloc_new w.drew _, by rw [hlen2]; exact hge, hcm, ?_, ?_⟩⟩, ⟨rfl, rfl, rfl, by simp, fun k hk _ => Below.heap_alloc w.drew _ k hk⟩⟩
    · have hz1 : (Value.int IntKind.u8 0).cells.size = 1 := rfl
      simp only [Array.size_append, List.size_toArray, size_zeroCells, hz1, List.length_append, u8s_length]
      omega
    · rw [Array.toList_append, ← u8s_append, ← hlen]
      exact List.take_left
  rcases hown.2 with ⟨rfl, h0⟩ | ⟨g, cap, cur, rfl, hbg, hg, hnc, hcm, hcs, htake⟩
  · have hX : X = [] := List.eq_nil_of_length_eq_zero h0
    subst hX
    by_cases hm : Y.length = 0
    · have hY : Y = [] := List.eq_nil_of_length_eq_zero hm
      subst hY
      refine ⟨.slice none 0 0, w, ?_, More.refl (World.ownsRow_nil w B 5 1)⟩
      have hc : (Builtin.firstCells 1 0 x).run P w = .ok #[] w := hs.cells
      have hl : (Builtin.lenOf x).run P w = .ok 0 w := hs.len w
      rcases hs.kind with ⟨e', hk⟩ | hk <;> simp [Builtin.append_, run_underlying ht, run_underlying hk, sizeOf, typeInfo, hi, hsize, hl, hc]
    · have hr := run_append_grow_src (P := P) w t tx ty 5 i (.int .u8 0) ht hi hz none 0 0 [] (by simpa using run_firstCells_none (P := P) w.drew i.size 0 0 0) x Y.length (u8s Y) (by rw [hsize]; exact hs) (by omega) (by omega) (by rw [hby, nextslicecap_zero (by omega)]; simp only [List.length_nil] at hln; omega)
      have hgr := grown 0 (Value.ownBlock (.slice none 0 0))
      simp only [List.length_nil, Nat.zero_add] at hr hgr ⊢
      exact ⟨_, _, hr, hgr.1, hgr.2, .inr ⟨_, rfl, Nat.le_refl _⟩⟩
  · by_cases hroom : X.length + Y.length ≤ cap
    · have hcs' : cur.size = cap := by simpa using hcs
      have ht' : cur.toList.take X.length = u8s X := by simpa using htake
      have hst := run_storeCells_at P g X.length 5 (u8s Y) 0 cur w hg (by rw [u8s_length]; omega) (u8s_one Y)
      simp only [Nat.add_zero, u8s_length] at hst
      have hr : (Builtin.append_ #[t, tx] ty #[.slice (some ⟨g, 0, none⟩) X.length cap, x]).run P w = .ok (.slice (some ⟨g, 0, none⟩) (X.length + Y.length) cap) (w.setRow g (cur.toList.take X.length ++ u8s Y ++ cur.toList.drop (X.length + Y.length)).toArray) := by
        rcases hs.kind with ⟨e', hk⟩ | hk <;> simp [Builtin.append_, run_underlying ht, run_underlying hk, sizeOf, typeInfo, hi, hsize, hs.len, hroom, hs.cells, Addr.add_lit, hst]
      refine ⟨_, _, hr, ⟨hlen, .inr ⟨g, cap, _, by rw [hlen2], hbg, setRow_heap w g cur _ 5 _ hg, by rw [hlen2]; exact hroom, hcm, ?_, ?_⟩⟩, ⟨rfl, rfl, rfl, by simp, fun k _ hk => setRow_other w g k _ (fun e => hk (by simp [Value.ownBlock, e]))⟩, .inl rfl⟩
      · simp only [List.size_toArray, List.length_append, List.length_take, List.length_drop, Array.length_toList, u8s_length]
        omega
      · rw [ht', ← u8s_append, Nat.mul_one, show (X ++ Y).length = (u8s (X ++ Y)).length by rw [u8s_length]]
        exact List.take_left
    · have holds : ∀ j u, (u8s X)[j]? = some u → w.drew.cell? ((⟨g, 0, none⟩ : Addr).add j) = some u := hown.cells (g := g) rfl
      have hr := run_append_grow_src (P := P) w t tx ty 5 i (.int .u8 0) ht hi hz (some ⟨g, 0, none⟩) X.length cap (u8s X) (run_firstCells_some w.drew i.size X.length ⟨g, 0, none⟩ X.length cap (u8s X) (by rw [hsize, u8s_length, Nat.mul_one]) holds) x Y.length (u8s Y) (by rw [hsize]; exact hs) (by omega) (by omega) (by rw [hby]; exact growslice_fits (by omega) (by omega))
      have hgr := grown cap (Value.ownBlock (.slice (some ⟨g, 0, none⟩) X.length cap))
      exact ⟨_, _, hr, hgr.1, hgr.2, .inr ⟨_, rfl, Nat.le_refl _⟩⟩
end
theorem infoB : (Tryd.prog.info? 5).map (fun i => (i.zero, i.size, i.bytes)) = some (some (.int .u8 0), 1, 1) := by kernel_rfl
section
variable {w : World} {ops : Array Oper} {rest : List Oper} {o : Oper} {a : Act} {Q : Exit → Act → World → Prop}
theorem ap_src (hgd : o.guard = none) (s x : Operand) (tx : TypeId) (ho : o.op = .call { callee := .builtin .append, args := #[s, x], argTypes := #[38, tx] })
    (B : Nat) (v : Value) (X : List UInt8) (hs : a.eval s = v) (hown : Buf w B v X) (xv : Value) (hx : a.eval x = xv) (Y : List UInt8) (hsrc : Src Tryd.prog 1 tx xv Y.length (u8s Y) w) (hln : X.length + Y.length ≤ 140737488355328) (hB : B ≤ w.heap.size)
    (h : ∀ v' w', More B w v w' v' (X ++ Y) → wpList Tryd.prog ops Q rest (a.put o.dst v') w') : wpList Tryd.prog ops Q (o :: rest) a w := by
  obtain ⟨i0, hi, hz0, hz1, hz2⟩ := info_parts infoB
  obtain ⟨v', w', hr, hm⟩ := run_append_src (P := Tryd.prog) w B 38 tx o.type i0 Tryd.underlying38 hi hz0 hz1 hz2 v X hown xv Y hsrc hln hB
  exact Lib.wpList_append_run w hgd s x 38 tx ho v xv hs hx v' w' hr (h v' w' hm)
theorem ap_slice (hgd : o.guard = none) (s x : Operand) (ho : o.op = .call { callee := .builtin .append, args := #[s, x], argTypes := #[38, 38] })
    (B : Nat) (v : Value) (X : List UInt8) (hs : a.eval s = v) (hown : Buf w B v X) (ad : Addr) (c : Nat) (Y : List UInt8) (hx : a.eval x = .slice (some ad) Y.length c) (hY : ∀ j u, (u8s Y)[j]? = some u → w.cell? (ad.add j) = some u) (hln : X.length + Y.length ≤ 140737488355328) (hB : B ≤ w.heap.size)
    (h : ∀ v' w', More B w v w' v' (X ++ Y) → wpList Tryd.prog ops Q rest (a.put o.dst v') w') : wpList Tryd.prog ops Q (o :: rest) a w :=
  ap_src hgd s x 38 ho B v X hs hown _ hx Y (Src.ofSlice w Tryd.underlying38 ad Y.length c (u8s Y) (by rw [u8s_length, Nat.mul_one]) hY (u8s_one Y)) hln hB h
theorem ap_str (hgd : o.guard = none) (s x : Operand) (ho : o.op = .call { callee := .builtin .append, args := #[s, x], argTypes := #[38, 9] })
    (B : Nat) (v : Value) (X : List UInt8) (hs : a.eval s = v) (hown : Buf w B v X) (t : ByteArray) (hx : a.eval x = .string t) (hln : X.length + t.size ≤ 140737488355328) (hB : B ≤ w.heap.size)
    (h : ∀ v' w', More B w v w' v' (X ++ t.data.toList) → wpList Tryd.prog ops Q rest (a.put o.dst v') w') : wpList Tryd.prog ops Q (o :: rest) a w := by
  have hl : t.data.toList.length = t.size := by rw [Array.length_toList]; rfl
  have hS : Src Tryd.prog 1 9 (.string t) t.data.toList.length (u8s t.data.toList) w := by rw [hl]; exact Src.ofString w Tryd.underlying9 t
  exact ap_src hgd s x 9 ho B v X hs hown _ hx t.data.toList hS (by rw [hl]; exact hln) hB h
/-- 'append' of one byte. -/
theorem ap_one (hgd : o.guard = none) (s x : Operand) (ho : o.op = .call { callee := .builtin .append, args := #[s, x], argTypes := #[38, 38] })
    (B : Nat) (v : Value) (X : List UInt8) (hs : a.eval s = v) (hown : Buf w B v X) (b : UInt8) (k c : Nat) (hx : a.eval x = .slice (some ⟨k, 0, none⟩) 1 c) (hk : w.cell? ⟨k, 0, none⟩ = some (.int .u8 b.toNat)) (hln : X.length + 1 ≤ 140737488355328) (hB : B ≤ w.heap.size)
    (h : ∀ v' w', More B w v w' v' (X ++ [b]) → wpList Tryd.prog ops Q rest (a.put o.dst v') w') : wpList Tryd.prog ops Q (o :: rest) a w :=
  ap_slice hgd s x ho B v X hs hown ⟨k, 0, none⟩ c [b] hx (fun j u hj => by
    have hj0 : j = 0 := by
      have := (List.getElem?_eq_some_iff.1 hj).1
      simp [u8s] at this
      exact this
    subst hj0
    simp [u8s] at hj
    subst hj
    exact hk) hln hB h
end
section
variable {w : World} {ops : Array Oper} {rest : List Oper} {o : Oper} {a : Act} {Q : Exit → Act → World → Prop}
/-- 'append' of another row of bytes of one's own. -/
theorem ap_buf (hgd : o.guard = none) (s x : Operand) (ho : o.op = .call { callee := .builtin .append, args := #[s, x], argTypes := #[38, 38] })
    (B : Nat) (v : Value) (X : List UInt8) (hs : a.eval s = v) (hown : Buf w B v X) (B2 : Nat) (v2 : Value) (Y : List UInt8) (hx : a.eval x = v2) (h2 : Buf w B2 v2 Y) (hln : X.length + Y.length ≤ 140737488355328) (hB : B ≤ w.heap.size)
    (h : ∀ v' w', More B w v w' v' (X ++ Y) → wpList Tryd.prog ops Q rest (a.put o.dst v') w') : wpList Tryd.prog ops Q (o :: rest) a w := by
  have hS : Src Tryd.prog 1 38 v2 Y.length (u8s Y) w := by
    have h2' := h2
    obtain ⟨_, ⟨rfl, h0⟩ | ⟨g, cap, cur, rfl, _⟩⟩ := h2
    · have hY : Y = [] := List.eq_nil_of_length_eq_zero h0
      subst hY
      exact Src.ofNil w Tryd.underlying38 0
    · exact Src.ofSlice w Tryd.underlying38 _ _ _ _ (by rw [u8s_length, Nat.mul_one]) (h2'.cells (g := g) rfl) (u8s_one Y)
  exact ap_src hgd s x 38 ho B v X hs hown v2 hx Y hS hln hB h
end
theorem buf_slice {w : World} {B : Nat} {v : Value} {X : List UInt8} (h : Buf w B v X) : ∃ a c, v = .slice a X.length c := by
  obtain ⟨_, ⟨rfl, h0⟩ | ⟨g, cap, cur, rfl, _⟩⟩ := h
  · exact ⟨none, 0, by rw [h0]⟩
  · exact ⟨_, _, rfl⟩
theorem buf_base {w : World} {B B' : Nat} {v : Value} {X : List UInt8} (h : Buf w B v X) (hB : B' ≤ B) : Buf w B' v X := by
  obtain ⟨h1, h2 | ⟨g, cap, cur, e1, e2, e3⟩⟩ := h
  · exact ⟨h1, .inl h2⟩
  · exact ⟨h1, .inr ⟨g, cap, cur, e1, by omega, e3⟩⟩
theorem conv_buf (w : World) (B : Nat) (v : Value) (X : List UInt8) (h : Buf w B v X) : (convert 38 9 v).run Tryd.prog w = .ok (.string ⟨X.toArray⟩) w := by
  have hd : strOfNums (X.map fun x => (x.toNat : Int)) = ⟨X.toArray⟩ := Lib.Lz.strOfNums_map X
  obtain ⟨_, ⟨rfl, h0⟩ | ⟨g, cap, cur, rfl, _⟩⟩ := id h
  · have hX : X = [] := List.eq_nil_of_length_eq_zero h0
    subst hX
    exact run_convert_bytes_nil (P := Tryd.prog) w 38 5 Tryd.underlying38 Tryd.underlying5 0 0 9 Tryd.underlying9
  · have := run_convert_bytes_arg (P := Tryd.prog) w 38 5 Tryd.underlying38 Tryd.underlying5 g 0 X.length cap (X.map fun x => (x.toNat : Int)) (by simp) (fun i hi => by
      rw [Nat.zero_add, h.cellAt i (by omega)]
      simp [u8s, List.getD, hi]) 9 Tryd.underlying9
    rw [hd] at this
    exact this
/-- A byte written as a list. -/
theorem run_one (w : World) (b : UInt8) : (Instr.buildSlice 38 1 #[(0, .int .u8 b.toNat)]).run Tryd.prog w = .ok (.slice (some ⟨w.heap.size, 0, none⟩) 1 1) (w.alloc (.cells #[.int .u8 b.toNat] 5)) := by
  obtain ⟨i0, hi, hz0, hz1, hz2⟩ := info_parts infoB
  refine run_buildSlice w 38 5 1 _ _ i0 _ Tryd.underlying38 hi hz0 (by rw [hz1]; decide) (by rw [hz1]; decide) ?_
  rw [hz1]
  exact Great.fill_flat [.int .u8 b.toNat] _ (fun v hv => by simp at hv; subst hv; rfl) (by simp)
/-- No bytes, and room for some. -/
theorem run_make8 (w : World) (c : Nat) (hc : c ≤ 140737488355328) : ∃ v w', (Instr.makeSlice 38 (.int .i64 0) (.int .i64 (c : Nat))).run Tryd.prog w = .ok v w' ∧ Buf w' w.heap.size v [] ∧ Below w.heap.size w w' := by
  obtain ⟨i0, hi, hz0, hz1, hz2⟩ := info_parts infoB
  obtain ⟨w', h1, h2, h3⟩ := run_make_own (P := Tryd.prog) w w.heap.size 38 5 i0 _ 1 Tryd.underlying38 hi hz0 hz1 .i64 .i64 c (by rw [hz2]; omega) (by unfold maxLen; omega) (Nat.le_refl _)
  exact ⟨_, _, h1, h2, ⟨h3.os, h3.tape, h3.output, h3.size, fun k hk => h3.block k hk (fun e => by cases e)⟩⟩
end Go.Proofs.YthidlckipiamkaaDoor
