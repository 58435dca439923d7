/- My own work: rows of bytes of one's own that grow (after stage 8's text, in a namespace of their own); a line that is appended. My own work: how long an index's text may be. My own work: the program's Text. My own work: the document's own Same, of packages that are the same. My own work: what IndexBack wants besides: ranges that are read are short; Text of any packages; the text of the law's own. -/
import Derived.Test.YtkbhckjpmgkgjaaGreatDoorXC
import Derived.Test.YtkbhckjpmgkgjaaGreatDoorV11
import Derived.Deep.AppendSrc
import Derived.Lib.AppendStr
import Derived.Lib.AppendZeros
import Derived.Lib.LazyBuf
import Derived.Laws.MakeOwn
import Derived.Laws.BytesArg
import Derived.Great.BuildSlice
import Derived.Test.YtkbhckjpmgkgjaaGreatDoorXE
import Derived.Test.YtkbhckjpmgkgjaaGreatDoorXG
namespace Go.Proofs.YtkbhckjpmgkgjaaGreatDoor.BF
open Go.RowKit

theorem ownsRow_keep {w w' : World} {B n s : Nat} {e : TypeId} {v : Value} {xs : List Value} (h : w.ownsRow B e s v n xs) (hb : ∀ g, v.ownBlock = some g → g < w.heap.size → w'.heap[g]? = w.heap[g]?) : w'.ownsRow B e s v n xs := by
  obtain ⟨h1, h2 | ⟨g, cap, cur, e1, e2, e3, e4⟩⟩ := h
  · exact ⟨h1, .inl h2⟩
  · refine ⟨h1, .inr ⟨g, cap, cur, e1, e2, ?_, e4⟩⟩
    obtain ⟨hlt, _⟩ := Array.getElem?_eq_some_iff.1 e3
    exact (hb g (by rw [e1]; rfl) hlt).trans e3
theorem own_grown {B : Nat} {w wr w1 : World} {e : TypeId} {s : Nat} {v : Value} {n : Nat} {xs : List Value} (hown : wr.ownsRow B e s v n xs) (hb : Below B w wr) (hB : B ≤ wr.heap.size) (hgrow : wr.grownBy w1 v.ownBlock) : Below B w w1 := by
  refine hb.grown hgrow hB (fun r hr => ?_)
  obtain ⟨_, ⟨rfl, _⟩ | ⟨g', cap, cur, rfl, hle, _⟩⟩ := hown
  · cases hr
  · simp [Value.ownBlock] at hr; omega
theorem ownsRow_lt {w : World} {base n s : Nat} {e : TypeId} {v : Value} {xs : List Value} (h : w.ownsRow base e s v n xs) : ∀ k, v.ownBlock = some k → k < w.heap.size ∧ base ≤ k ∧ ∃ cur, Row w k cur e := fun k hk => by
  obtain ⟨_, ⟨rfl, _⟩ | ⟨g', c', cur, rfl, h2, e3, _⟩⟩ := h
  · cases hk
  · simp [Value.ownBlock] at hk
    subst hk
    exact ⟨Row.lt e3, h2, cur, e3⟩
/-- Bytes as cells. -/
def u8s (X : List UInt8) : List Value := X.map fun b => Value.int .u8 b.toNat
theorem u8s_append (X Y : List UInt8) : u8s (X ++ Y) = u8s X ++ u8s Y := by simp [u8s]
theorem u8s_length (X : List UInt8) : (u8s X).length = X.length := by simp [u8s]
theorem u8s_one (X : List UInt8) : ∀ u ∈ u8s X, u.oneCell' = true := fun u hu => by
  obtain ⟨_, _, rfl⟩ := List.mem_map.1 hu
  rfl
theorem row_apart {w : World} {k k' : Nat} {C C' : Array Value} {t t' : TypeId} (h : Row w k C t) (h' : Row w k' C' t') (ht : t ≠ t') : k ≠ k' := fun e => by
  subst e
  have := h.symm.trans h'
  simp at this
  exact ht this.2
/-- A row of bytes of one's own. -/
abbrev Buf (w : World) (B : Nat) (v : Value) (X : List UInt8) : Prop := w.ownsRow B 5 1 v X.length (u8s X)
/-- It has become another one, and nothing else has changed. -/
structure More (B : Nat) (w : World) (v : Value) (w' : World) (v' : Value) (Z : List UInt8) : Prop where
  buf : Buf w' B v' Z
  grown : w.grownBy w' v.ownBlock
  new : v'.ownBlock = v.ownBlock ∨ ∃ k, v'.ownBlock = some k ∧ w.heap.size ≤ k
theorem below_new {a w : World} (h : Below a.heap.size a w) (o : Obj) : Below a.heap.size a (w.alloc o) := h.alloc h.size o
theorem below_next {a w w' : World} (h : Below a.heap.size a w) (h' : Below w.heap.size w w') : Below a.heap.size a w' := h.trans (h'.mono h.size)
theorem Buf.keep {w w' : World} {B : Nat} {v : Value} {X : List UInt8} (h : Buf w B v X) (hb : Below w.heap.size w w') : Buf w' B v X :=
  ownsRow_keep h fun k hk _ => hb.block k (ownsRow_lt h k hk).1
theorem Below.grownBy {w w' : World} (hb : Below w.heap.size w w') (r : Option Nat) : w.grownBy w' r := ⟨hb.os, hb.tape, hb.output, hb.size, fun k hk _ => hb.block k hk⟩
theorem grown_trans {w w1 w2 : World} {r r1 : Option Nat} (h1 : w.grownBy w1 r) (hr : r1 = r ∨ ∃ k, r1 = some k ∧ w.heap.size ≤ k) (h2 : w1.grownBy w2 r1) : w.grownBy w2 r :=
  ⟨h2.os.trans h1.os, h2.tape.trans h1.tape, h2.output.trans h1.output, Nat.le_trans h1.size h2.size, fun k hk hne => by
    have hs := h1.size
    refine (h2.block k (by omega) ?_).trans (h1.block k hk hne)
    rcases hr with e | ⟨q, e, hq⟩
    · rw [e]; exact hne
    · rw [e]; intro e1; simp only [Option.some.injEq] at e1; omega⟩
theorem More.trans {B : Nat} {w w1 w2 : World} {v v1 v2 : Value} {X Y : List UInt8} (h1 : More B w v w1 v1 X) (h2 : More B w1 v1 w2 v2 Y) : More B w v w2 v2 Y :=
  ⟨h2.buf, grown_trans h1.grown h1.new h2.grown, by
    have hs := h1.grown.size
    rcases h2.new with e | ⟨k, e, hk⟩
    · rw [e]; exact h1.new
    · exact .inr ⟨k, e, by omega⟩⟩
/-- Ahead of it something else was made. -/
theorem More.after {B : Nat} {w w1 w2 : World} {v v2 : Value} {Y : List UInt8} (hb : Below w.heap.size w w1) (h2 : More B w1 v w2 v2 Y) : More B w v w2 v2 Y :=
  ⟨h2.buf, grown_trans (Below.grownBy hb v.ownBlock) (.inl rfl) h2.grown, by
    have hs := hb.size
    rcases h2.new with e | ⟨k, e, hk⟩
    · exact .inl e
    · exact .inr ⟨k, e, by omega⟩⟩
theorem More.refl {B : Nat} {w : World} {v : Value} {X : List UInt8} (h : Buf w B v X) : More B w v w v X := ⟨h, ⟨rfl, rfl, rfl, Nat.le_refl _, fun _ _ _ => rfl⟩, .inl rfl⟩
/-- What lay below the row's base stays. -/
theorem More.below {B : Nat} {w w' : World} {v v' : Value} {X Z : List UInt8} (h : More B w v w' v' Z) (h0 : Buf w B v X) (hB : B ≤ w.heap.size) : Below B w w' :=
  own_grown h0 (Below.refl B w) hB h.grown
/-- Rows of other elements stay. -/
theorem More.row {B : Nat} {w w' : World} {v v' : Value} {X Z : List UInt8} (h : More B w v w' v' Z) (h0 : Buf w B v X) {k : Nat} {C : Array Value} {t : TypeId} (hr : Row w k C t) (ht : t ≠ 5) : Row w' k C t :=
  (h.grown.block k hr.lt (fun e1 => by
    obtain ⟨_, _, c2, r2⟩ := ownsRow_lt h0 k e1.symm
    exact row_apart hr r2 ht rfl)).trans hr

section
variable {P : Program} (w : World)
/-- 'append', onto a row of bytes of one's own, of whatever yields bytes. -/
theorem run_append_src (B : Nat) (t tx ty : TypeId) (i : TypeInfo) (ht : P.underlying t = some (.slice 5)) (hi : P.info? 5 = some i) (hz : i.zero = some (.int .u8 0)) (hsize : i.size = 1) (hby : i.bytes = 1)
    (v : Value) (X : List UInt8) (hown : Buf w B v X) (x : Value) (Y : List UInt8) (hs : Src P 1 tx x Y.length (u8s Y) w) (hln : X.length + Y.length ≤ 140737488355328) (hB : B ≤ w.heap.size) :
    ∃ v' w', (Builtin.append_ #[t, tx] ty #[v, x]).run P w = .ok v' w' ∧ More B w v w' v' (X ++ Y) := by
  have h63 : X.length + Y.length ≤ maxLen := by unfold maxLen; omega
  have hlen : (u8s (X ++ Y)).length = (X ++ Y).length * 1 := by rw [u8s_length, Nat.mul_one]
  have hlen2 : (X ++ Y).length = X.length + Y.length := List.length_append
  have grown : ∀ (old : Nat), ∀ (row : Option Nat),
      (w.drew.alloc (.cells ((u8s X ++ u8s Y).toArray ++ Builtin.zeroCells (Value.int .u8 0).cells (grownCap w (X.length + Y.length) old 5 - (X.length + Y.length))) 5)).ownsRow B 5 1
        (.slice (some ⟨w.heap.size, 0, none⟩) (X.length + Y.length) (grownCap w (X.length + Y.length) old 5)) (X ++ Y).length (u8s (X ++ Y)) ∧
      w.grownBy (w.drew.alloc (.cells ((u8s X ++ u8s Y).toArray ++ Builtin.zeroCells (Value.int .u8 0).cells (grownCap w (X.length + Y.length) old 5 - (X.length + Y.length))) 5)) row := by
    intro old row
    have hge := grownCap_ge w (X.length + Y.length) old 5
    have hcm : grownCap w (X.length + Y.length) old 5 ≤ maxLen := grownCap_le_maxLen w _ old 5 h63
    refine ⟨⟨hlen, .inr ⟨w.heap.size, _, _, by rw [hlen2], hB, heap_alloc_new w.drew _, by rw [hlen2]; exact hge, hcm, ?_, ?_⟩⟩, ⟨rfl, rfl, rfl, by simp, fun k hk _ => Below.heap_alloc w.drew _ k hk⟩⟩
    · have hz1 : (Value.int IntKind.u8 0).cells.size = 1 := rfl
      simp only [Array.size_append, List.size_toArray, size_zeroCells, hz1, List.length_append, u8s_length]
      omega
    · rw [Array.toList_append, ← u8s_append, ← hlen]
      exact List.take_left
  rcases hown.2 with ⟨rfl, h0⟩ | ⟨g, cap, cur, rfl, hbg, hg, hnc, hcm, hcs, htake⟩
  · have hX : X = [] := List.eq_nil_of_length_eq_zero h0
    subst hX
    by_cases hm : Y.length = 0
    · have hY : Y = [] := List.eq_nil_of_length_eq_zero hm
      subst hY
      refine ⟨.slice none 0 0, w, ?_, More.refl (World.ownsRow_nil w B 5 1)⟩
      have hc : (Builtin.firstCells 1 0 x).run P w = .ok #[] w := hs.cells
      have hl : (Builtin.lenOf x).run P w = .ok 0 w := hs.len w
      rcases hs.kind with ⟨e', hk⟩ | hk <;> simp [Builtin.append_, run_underlying ht, run_underlying hk, sizeOf, typeInfo, hi, hsize, hl, hc]
    · have hr := run_append_grow_src (P := P) w t tx ty 5 i (.int .u8 0) ht hi hz none 0 0 [] (by simpa using run_firstCells_none (P := P) w.drew i.size 0 0 0) x Y.length (u8s Y) (by rw [hsize]; exact hs) (by omega) (by omega) (by rw [hby, nextslicecap_zero (by omega)]; simp only [List.length_nil] at hln; omega)
      have hgr := grown 0 (Value.ownBlock (.slice none 0 0))
      simp only [List.length_nil, Nat.zero_add] at hr hgr ⊢
      exact ⟨_, _, hr, hgr.1, hgr.2, .inr ⟨_, rfl, Nat.le_refl _⟩⟩
  · by_cases hroom : X.length + Y.length ≤ cap
    · have hcs' : cur.size = cap := by simpa using hcs
      have ht' : cur.toList.take X.length = u8s X := by simpa using htake
      have hst := run_storeCells_at P g X.length 5 (u8s Y) 0 cur w hg (by rw [u8s_length]; omega) (u8s_one Y)
      simp only [Nat.add_zero, u8s_length] at hst
      have hr : (Builtin.append_ #[t, tx] ty #[.slice (some ⟨g, 0, none⟩) X.length cap, x]).run P w = .ok (.slice (some ⟨g, 0, none⟩) (X.length + Y.length) cap) (w.setRow g (cur.toList.take X.length ++ u8s Y ++ cur.toList.drop (X.length + Y.length)).toArray) := by
        rcases hs.kind with ⟨e', hk⟩ | hk <;> simp [Builtin.append_, run_underlying ht, run_underlying hk, sizeOf, typeInfo, hi, hsize, hs.len, hroom, hs.cells, Addr.add_lit, hst]
      refine ⟨_, _, hr, ⟨hlen, .inr ⟨g, cap, _, by rw [hlen2], hbg, setRow_heap w g cur _ 5 _ hg, by rw [hlen2]; exact hroom, hcm, ?_, ?_⟩⟩, ⟨rfl, rfl, rfl, by simp, fun k _ hk => setRow_other w g k _ (fun e => hk (by simp [Value.ownBlock, e]))⟩, .inl rfl⟩
      · simp only [List.size_toArray, List.length_append, List.length_take, List.length_drop, Array.length_toList, u8s_length]
        omega
      · rw [ht', ← u8s_append, Nat.mul_one, show (X ++ Y).length = (u8s (X ++ Y)).length by rw [u8s_length]]
        exact List.take_left
    · have holds : ∀ j u, (u8s X)[j]? = some u → w.drew.cell? ((⟨g, 0, none⟩ : Addr).add j) = some u := hown.cells (g := g) rfl
      have hr := run_append_grow_src (P := P) w t tx ty 5 i (.int .u8 0) ht hi hz (some ⟨g, 0, none⟩) X.length cap (u8s X) (run_firstCells_some w.drew i.size X.length ⟨g, 0, none⟩ X.length cap (u8s X) (by rw [hsize, u8s_length, Nat.mul_one]) holds) x Y.length (u8s Y) (by rw [hsize]; exact hs) (by omega) (by omega) (by rw [hby]; exact growslice_fits (by omega) (by omega))
      have hgr := grown cap (Value.ownBlock (.slice (some ⟨g, 0, none⟩) X.length cap))
      exact ⟨_, _, hr, hgr.1, hgr.2, .inr ⟨_, rfl, Nat.le_refl _⟩⟩
end
theorem infoB : (Tryz.prog.info? 5).map (fun i => (i.zero, i.size, i.bytes)) = some (some (.int .u8 0), 1, 1) := by kernel_rfl
section
variable {w : World} {ops : Array Oper} {rest : List Oper} {o : Oper} {a : Act} {Q : Exit → Act → World → Prop}
theorem ap_src (hgd : o.guard = none) (s x : Operand) (tx : TypeId) (ho : o.op = .call { callee := .builtin .append, args := #[s, x], argTypes := #[69, tx] })
    (B : Nat) (v : Value) (X : List UInt8) (hs : a.eval s = v) (hown : Buf w B v X) (xv : Value) (hx : a.eval x = xv) (Y : List UInt8) (hsrc : Src Tryz.prog 1 tx xv Y.length (u8s Y) w) (hln : X.length + Y.length ≤ 140737488355328) (hB : B ≤ w.heap.size)
    (h : ∀ v' w', More B w v w' v' (X ++ Y) → wpList Tryz.prog ops Q rest (a.put o.dst v') w') : wpList Tryz.prog ops Q (o :: rest) a w := by
  obtain ⟨i0, hi, hz0, hz1, hz2⟩ := info_parts infoB
  obtain ⟨v', w', hr, hm⟩ := run_append_src (P := Tryz.prog) w B 69 tx o.type i0 Tryz.underlying69 hi hz0 hz1 hz2 v X hown xv Y hsrc hln hB
  exact Lib.wpList_append_run w hgd s x 69 tx ho v xv hs hx v' w' hr (h v' w' hm)
theorem ap_slice (hgd : o.guard = none) (s x : Operand) (ho : o.op = .call { callee := .builtin .append, args := #[s, x], argTypes := #[69, 69] })
    (B : Nat) (v : Value) (X : List UInt8) (hs : a.eval s = v) (hown : Buf w B v X) (ad : Addr) (c : Nat) (Y : List UInt8) (hx : a.eval x = .slice (some ad) Y.length c) (hY : ∀ j u, (u8s Y)[j]? = some u → w.cell? (ad.add j) = some u) (hln : X.length + Y.length ≤ 140737488355328) (hB : B ≤ w.heap.size)
    (h : ∀ v' w', More B w v w' v' (X ++ Y) → wpList Tryz.prog ops Q rest (a.put o.dst v') w') : wpList Tryz.prog ops Q (o :: rest) a w :=
  ap_src hgd s x 69 ho B v X hs hown _ hx Y (Src.ofSlice w Tryz.underlying69 ad Y.length c (u8s Y) (by rw [u8s_length, Nat.mul_one]) hY (u8s_one Y)) hln hB h
theorem ap_str (hgd : o.guard = none) (s x : Operand) (ho : o.op = .call { callee := .builtin .append, args := #[s, x], argTypes := #[69, 9] })
    (B : Nat) (v : Value) (X : List UInt8) (hs : a.eval s = v) (hown : Buf w B v X) (t : ByteArray) (hx : a.eval x = .string t) (hln : X.length + t.size ≤ 140737488355328) (hB : B ≤ w.heap.size)
    (h : ∀ v' w', More B w v w' v' (X ++ t.data.toList) → wpList Tryz.prog ops Q rest (a.put o.dst v') w') : wpList Tryz.prog ops Q (o :: rest) a w := by
  have hl : t.data.toList.length = t.size := by rw [Array.length_toList]; rfl
  have hS : Src Tryz.prog 1 9 (.string t) t.data.toList.length (u8s t.data.toList) w := by rw [hl]; exact Src.ofString w Tryz.underlying9 t
  exact ap_src hgd s x 9 ho B v X hs hown _ hx t.data.toList hS (by rw [hl]; exact hln) hB h
/-- 'append' of one byte. -/
theorem ap_one (hgd : o.guard = none) (s x : Operand) (ho : o.op = .call { callee := .builtin .append, args := #[s, x], argTypes := #[69, 69] })
    (B : Nat) (v : Value) (X : List UInt8) (hs : a.eval s = v) (hown : Buf w B v X) (b : UInt8) (k c : Nat) (hx : a.eval x = .slice (some ⟨k, 0, none⟩) 1 c) (hk : w.cell? ⟨k, 0, none⟩ = some (.int .u8 b.toNat)) (hln : X.length + 1 ≤ 140737488355328) (hB : B ≤ w.heap.size)
    (h : ∀ v' w', More B w v w' v' (X ++ [b]) → wpList Tryz.prog ops Q rest (a.put o.dst v') w') : wpList Tryz.prog ops Q (o :: rest) a w :=
  ap_slice hgd s x ho B v X hs hown ⟨k, 0, none⟩ c [b] hx (fun j u hj => by
    have hj0 : j = 0 := by
      have := (List.getElem?_eq_some_iff.1 hj).1
      simp [u8s] at this
      exact this
    subst hj0
    simp [u8s] at hj
    subst hj
    exact hk) hln hB h
end
section
variable {w : World} {ops : Array Oper} {rest : List Oper} {o : Oper} {a : Act} {Q : Exit → Act → World → Prop}
/-- 'append' of another row of bytes of one's own. -/
theorem ap_buf (hgd : o.guard = none) (s x : Operand) (ho : o.op = .call { callee := .builtin .append, args := #[s, x], argTypes := #[69, 69] })
    (B : Nat) (v : Value) (X : List UInt8) (hs : a.eval s = v) (hown : Buf w B v X) (B2 : Nat) (v2 : Value) (Y : List UInt8) (hx : a.eval x = v2) (h2 : Buf w B2 v2 Y) (hln : X.length + Y.length ≤ 140737488355328) (hB : B ≤ w.heap.size)
    (h : ∀ v' w', More B w v w' v' (X ++ Y) → wpList Tryz.prog ops Q rest (a.put o.dst v') w') : wpList Tryz.prog ops Q (o :: rest) a w := by
  have hS : Src Tryz.prog 1 69 v2 Y.length (u8s Y) w := by
    have h2' := h2
    obtain ⟨_, ⟨rfl, h0⟩ | ⟨g, cap, cur, rfl, _⟩⟩ := h2
    · have hY : Y = [] := List.eq_nil_of_length_eq_zero h0
      subst hY
      exact Src.ofNil w Tryz.underlying69 0
    · exact Src.ofSlice w Tryz.underlying69 _ _ _ _ (by rw [u8s_length, Nat.mul_one]) (h2'.cells (g := g) rfl) (u8s_one Y)
  exact ap_src hgd s x 69 ho B v X hs hown v2 hx Y hS hln hB h
end
theorem buf_slice {w : World} {B : Nat} {v : Value} {X : List UInt8} (h : Buf w B v X) : ∃ a c, v = .slice a X.length c := by
  obtain ⟨_, ⟨rfl, h0⟩ | ⟨g, cap, cur, rfl, _⟩⟩ := h
  · exact ⟨none, 0, by rw [h0]⟩
  · exact ⟨_, _, rfl⟩
theorem buf_base {w : World} {B B' : Nat} {v : Value} {X : List UInt8} (h : Buf w B v X) (hB : B' ≤ B) : Buf w B' v X := by
  obtain ⟨h1, h2 | ⟨g, cap, cur, e1, e2, e3⟩⟩ := h
  · exact ⟨h1, .inl h2⟩
  · exact ⟨h1, .inr ⟨g, cap, cur, e1, by omega, e3⟩⟩
theorem conv_buf (w : World) (B : Nat) (v : Value) (X : List UInt8) (h : Buf w B v X) : (convert 69 9 v).run Tryz.prog w = .ok (.string ⟨X.toArray⟩) w := by
  have hd : strOfNums (X.map fun x => (x.toNat : Int)) = ⟨X.toArray⟩ := Lib.Lz.strOfNums_map X
  obtain ⟨_, ⟨rfl, h0⟩ | ⟨g, cap, cur, rfl, _⟩⟩ := id h
  · have hX : X = [] := List.eq_nil_of_length_eq_zero h0
    subst hX
    exact run_convert_bytes_nil (P := Tryz.prog) w 69 5 Tryz.underlying69 Tryz.underlying5 0 0 9 Tryz.underlying9
  · have := run_convert_bytes_arg (P := Tryz.prog) w 69 5 Tryz.underlying69 Tryz.underlying5 g 0 X.length cap (X.map fun x => (x.toNat : Int)) (by simp) (fun i hi => by
      rw [Nat.zero_add, h.cellAt i (by omega)]
      simp [u8s, List.getD, hi]) 9 Tryz.underlying9
    rw [hd] at this
    exact this

theorem cat_size (a b : ByteArray) : (a ++ b).size = a.size + b.size := ByteArray.size_append
set_option maxRecDepth 20000 in
set_option maxHeartbeats 2000000 in
/-- A line is appended. -/
theorem appendLine_ok (B : Nat) (v : Value) (X : List UInt8) (word name said : ByteArray) (w : World) (h : Buf w B v X) (hB : B ≤ w.heap.size) (hl : X.length + word.size + name.size + said.size + 3 ≤ 140737488355328) :
    Calls Tryz.prog 32 #[v, .string word, .string name, .string said] w fun e w' => ∃ v', e = .returned v' ∧ More B w v w' v' (X ++ lineI (vb word) (vb name) (vb said)) := by
  obtain ⟨T, hT⟩ : ∃ T, T = word ++ ⟨#[32]⟩ ++ name ++ ⟨#[32]⟩ ++ said ++ ⟨#[10]⟩ := ⟨_, rfl⟩
  have HTl : Hid (T.data.toList = lineI (vb word) (vb name) (vb said)) := by
    show _ = _
    rw [hT]
    simp [lineI, vb, ByteArray.data_append]
  have HTs : Hid (X.length + T.size ≤ 140737488355328) := by
    show _ ≤ _
    rw [hT, ByteArray.size_append, ByteArray.size_append, ByteArray.size_append, ByteArray.size_append, ByteArray.size_append]
    have e1 : (⟨#[32]⟩ : ByteArray).size = 1 := rfl
    have e2 : (⟨#[10]⟩ : ByteArray).size = 1 := rfl
    omega
  have hT' := hT.symm
  have HO : Hid (Buf w B v X) := h
  clear hT h
  go_enter Tryz.func32, Tryz.ntmps32
  go_wp2_with (at_builtin; refine ap_str rfl _ _ rfl B v X rfl HO.out T rfl HTs.out hB (fun v' w' hm => ?_))
  rw [HTl.out] at hm
  go_wp2
  go_ret
  exact ⟨_, rfl, hm⟩
end Go.Proofs.YtkbhckjpmgkgjaaGreatDoor.BF
namespace Go.Proofs.YtkbhckjpmgkgjaaGreatDoor
open Go.RowKit

theorem textV_small {v : Ver} (hmay : May v) : (textV v).length ≤ 60 := by
  have h1 := join_small hmay
  have h2 := hmay.tag
  unfold textV tagT
  rw [List.length_append]
  by_cases ht : vb v.tag = []
  · rw [if_pos ht]
    simp
    omega
  · rw [if_neg ht, List.length_cons]
    rcases h2 with h | h
    · exact absurd h ht
    · unfold tagB at h
      rw [Bool.and_eq_true, decide_eq_true_eq] at h
      omega
theorem nameI_small {s : ByteArray} (h : nameI (vb s) = true) : s.size ≤ 20 := by
  unfold nameI at h
  rw [Bool.and_eq_true, Bool.and_eq_true, decide_eq_true_eq, vb_len] at h
  exact h.1.1.2
theorem needs_mem : ∀ {l A : List Ned}, needsE A l = 0 → ∀ n ∈ l, ∃ B, rightN n B = 0 := by
  intro l
  induction l with
  | nil => intro A _ n hn; cases hn
  | cons m r ih =>
    intro A h n hn
    obtain ⟨h1, h2⟩ := needsE_cons0.1 h
    rcases List.mem_cons.1 hn with rfl | hn
    · exact ⟨A, h1⟩
    · exact ih h2 n hn
/-- Packages that may be have short names and versions. -/
theorem right_small {L : List Pak} (h : rightL L = 0) : ∀ p ∈ L, p.nm.size ≤ 20 ∧ p.vr.size ≤ 60 ∧ p.nd.length ≤ 64 ∧ ∀ n ∈ p.nd, n.nm.size ≤ 20 := fun p hp => by
  obtain ⟨⟨_, g2⟩, g3⟩ := rightL_zero.1 h
  obtain ⟨B, hB⟩ := packs_mem g3 p hp
  obtain ⟨k1, k2⟩ := packE_parts hB
  obtain ⟨k3, ⟨v, k4⟩, _⟩ := rightP_ok k1
  refine ⟨nameI_small k3, ?_, g2 p hp, fun n hn => ?_⟩
  · obtain ⟨m1, m2⟩ := parse_back k4
    have := textV_small m1
    rw [m2, vb_len] at this
    exact this
  · obtain ⟨A, hA⟩ := needs_mem k2 n hn
    exact nameI_small (rightN_ok hA).1
/-- Ranges that are not too long. -/
def RgS (L : List Pak) : Prop := ∀ p ∈ L, ∀ n ∈ p.nd, n.rg.size ≤ 4194304
theorem lineI_len (a n s : By) : (lineI a n s).length = a.length + n.length + s.length + 3 := by unfold lineI; simp; omega
theorem needT_small {n : Ned} (h1 : n.nm.size ≤ 20) (h2 : n.rg.size ≤ 4194304) : (needT n).length ≤ 4194340 := by
  unfold needT
  rw [lineI_len, vb_len, vb_len]
  have : wNeed.length = 5 := rfl
  omega
theorem flat_small {α : Type} (f : α → By) (K : Nat) : ∀ l : List α, (∀ x ∈ l, (f x).length ≤ K) → ((l.map f).flatten).length ≤ l.length * K
  | [], _ => Nat.zero_le _
  | x :: r, h => by
    have h1 := flat_small f K r fun y hy => h y (List.mem_cons_of_mem _ hy)
    have h2 := h x List.mem_cons_self
    simp only [List.map_cons, List.flatten_cons, List.length_append, List.length_cons, Nat.add_mul, Nat.one_mul]
    omega
theorem packT_small {L : List Pak} (h : rightL L = 0) (hR : RgS L) {p : Pak} (hp : p ∈ L) : (packT p).length ≤ 268438000 := by
  obtain ⟨h1, h2, h3, h4⟩ := right_small h p hp
  unfold packT
  rw [List.length_append, lineI_len, vb_len, vb_len]
  have h5 := flat_small needT 4194340 p.nd fun n hn => needT_small (h4 n hn) (hR p hp n hn)
  have h6 : p.nd.length * 4194340 ≤ 64 * 4194340 := Nat.mul_le_mul_right _ h3
  have : wPack.length = 7 := rfl
  omega
theorem textL_take {L : List Pak} (h : rightL L = 0) (hR : RgS L) (i : Nat) : (textL (L.take i)).length ≤ i * 268438000 := by
  unfold textL
  have h1 := flat_small packT 268438000 (L.take i) fun p hp => packT_small h hR (List.mem_of_mem_take hp)
  have h2 : (L.take i).length * 268438000 ≤ i * 268438000 := Nat.mul_le_mul_right _ (List.length_take_le _ _)
  exact Nat.le_trans h1 h2
theorem need_take {L : List Pak} (h : rightL L = 0) (hR : RgS L) {p : Pak} (hp : p ∈ L) (j : Nat) : (((p.nd.take j).map needT).flatten).length ≤ 268437760 := by
  obtain ⟨_, _, h3, h4⟩ := right_small h p hp
  have h5 := flat_small needT 4194340 (p.nd.take j) fun n hn => needT_small (h4 n (List.mem_of_mem_take hn)) (hR p hp n (List.mem_of_mem_take hn))
  have h6 : (p.nd.take j).length * 4194340 ≤ 64 * 4194340 := Nat.mul_le_mul_right _ (by rw [List.length_take]; omega)
  exact Nat.le_trans h5 h6
theorem textL_go {L : List Pak} {i : Nat} (h : i < L.length) : textL (L.take (i + 1)) = textL (L.take i) ++ packT L[i] := by rw [List.take_succ_eq_append_getElem h, textL_snoc]
theorem need_go {l : List Ned} {j : Nat} (h : j < l.length) : ((l.take (j + 1)).map needT).flatten = ((l.take j).map needT).flatten ++ needT l[j] := by
  rw [List.take_succ_eq_append_getElem h, List.map_append, List.flatten_append]
  show _ ++ (needT l[j] ++ []) = _
  rw [List.append_nil]
end Go.Proofs.YtkbhckjpmgkgjaaGreatDoor
namespace Go.Proofs.YtkbhckjpmgkgjaaGreatDoor
open Go.RowKit

/-- Text's answer. -/
noncomputable def textIE (L : List Pak) : Value := if rightL L = 0 then .tuple #[.string (tx (textL L)), .int .i64 0] else .tuple #[.string ⟨#[]⟩, .int .i64 (rightL L)]
theorem textIE_no {L : List Pak} {R : Int} (hR : R = rightL L) (h : R ≠ 0) : textIE L = .tuple #[.string ⟨#[]⟩, .int .i64 R] := by unfold textIE; rw [← hR, if_neg h]
theorem textIE_yes {L : List Pak} (h : rightL L = 0) : textIE L = .tuple #[.string (tx (textL L)), .int .i64 0] := by unfold textIE; rw [if_pos h]
set_option maxRecDepth 40000 in
set_option maxHeartbeats 16000000 in
theorem textI_ok {L : List Pak} {pv : Value} (w : World) (hL : PacksIn w pv L) (hF : FitP L) (hRg : RgS L) (hl : L.length ≤ 1000) : Calls Tryz.prog 14 #[pv] w fun e w' => e = .returned (textIE L) ∧ Below w.heap.size w w' := by
  have hri := right_ok w hL hF (by omega)
  obtain ⟨R, hR⟩ : ∃ R, R = rightL L := ⟨_, rfl⟩
  have HR : Hid (R = rightL L) := hR
  rw [← hR] at hri
  have HRg : Hid (RgS L) := hRg
  obtain ⟨a, g, off, c, rfl, h2, h3, h4, h5⟩ := hL.ex
  have HA1 : Hid (0 < L.length → a = some ⟨g, off, none⟩) := fun h => (h3 h).1
  have HA5 : Hid (∀ i (h : i < L.length), ∃ na nc, (∀ wx, Below w.heap.size w wx → wx.rangeAt g (off + i * 3) (encP L[i] (.slice na L[i].nd.length nc))) ∧ ∀ wx, Below w.heap.size w wx → NeedsIn wx (.slice na L[i].nd.length nc) L[i].nd) := fun i hi => by
    obtain ⟨nv, k1, k2⟩ := h5 i hi
    have k2' := k2
    obtain ⟨na, _, _, nc, rfl, _⟩ := k2.ex
    exact ⟨na, nc, fun wx hx j u hj => (hx.cell (p := ⟨g, off + i * 3 + j, none⟩) (h3 (by omega)).2).trans (k1 j u hj), fun wx hx => k2'.keep (Nat.le_refl _) hx⟩
  obtain ⟨n, hn⟩ : ∃ n, n = L.length := ⟨_, rfl⟩
  have HN : Hid (n = L.length) := hn
  have hnn : L.length = n := hn.symm
  rw [hnn]
  rw [hnn] at h2 hl hri
  clear hL h3 h4 h5 hn hnn hR hF hRg
  by_cases hz : R = 0
  case neg =>
    have HE : Hid (textIE L = .tuple #[.string ⟨#[]⟩, .int .i64 R]) := textIE_no HR.out hz
    have hzb := beqI hz
    go_enter Tryz.func14, Tryz.ntmps14
    go_wp2_with fail
    refine hri.mono ?_
    rintro e w1 ⟨rfl, hb1⟩
    have HB1 : Hid (Below w.heap.size w w1) := hb1
    clear hri hb1
    go_wp2
    go_ret2
    exact ⟨by rw [HE.out]; rfl, HB1.out⟩
  case pos =>
    have HR0 : Hid (rightL L = 0) := by show _ = _; rw [← HR.out]; exact hz
    have HE : Hid (textIE L = .tuple #[.string (tx (textL L)), .int .i64 0]) := textIE_yes HR0.out
    subst hz
    clear HR
    go_enter Tryz.func14, Tryz.ntmps14
    go_wp2_with fail
    refine hri.mono ?_
    rintro e w1 ⟨rfl, hb1⟩
    have HB1 : Hid (Below w.heap.size w w1) := hb1
    have H0 : Hid (BF.Buf w1 w.heap.size (.slice none 0 0) []) := World.ownsRow_nil _ _ _ _
    clear hri hb1
    go_wp2
    go_loopw [5, 17] (fun bv iv wr => ∃ (i : Nat) (X : By), i ≤ n ∧ iv = .int .i64 i ∧ Hid (BF.Buf wr w.heap.size bv X) ∧ Hid (X = textL (L.take i)) ∧ Hid (Below w.heap.size w wr)) (fun _ iv _ => n - (intOf iv).toNat)
    case atStart => exact ⟨0, [], Nat.zero_le _, rfl, H0, by show _ = _; rfl, HB1⟩
    case round =>
      obtain ⟨i, X, hi, rfl, HBf, HX, HB⟩ := hrel
      by_cases hlt : i < n
      · have hlt' : (i : Int) < (n : Int) := by omega
        have hiL : i < L.length := by have := HN.out; omega
        obtain rfl := HA1.out (by omega)
        obtain ⟨na, nc, hrg0, hno⟩ := HA5.out i hiL
        have hrg := hrg0 wr HB.out
        obtain ⟨p, hp⟩ : ∃ p, p = L[i] := ⟨_, rfl⟩
        rw [← hp] at hrg hno
        have hpL : p ∈ L := by rw [hp]; exact List.getElem_mem _
        obtain ⟨hs1, hs2, hs3, hs4⟩ := right_small HR0.out p hpL
        have HS4 : Hid (∀ n ∈ p.nd, n.nm.size ≤ 20) := hs4
        have HG4 : Hid (∀ n ∈ p.nd, n.rg.size ≤ 4194304) := HRg.out p hpL
        have HTk : Hid (textL (L.take (i + 1)) = X ++ packT p) := by show _ = _; rw [textL_go hiL, HX.out, hp]
        have HNT : Hid (∀ j, (((p.nd.take j).map needT).flatten).length ≤ 268437760) := need_take HR0.out HRg.out hpL
        have hXl : X.length ≤ 1000 * 268438000 := by
          rw [HX.out]
          exact Nat.le_trans (textL_take HR0.out HRg.out i) (Nat.mul_le_mul_right _ (by omega))
        obtain ⟨nl, hnl⟩ : ∃ nl, nl = p.nd.length := ⟨_, rfl⟩
        rw [← hnl] at hrg hno hs3
        have HNo : Hid (∀ wx, Below w.heap.size w wx → NeedsIn wx (.slice na nl nc) p.nd) := hno
        have HNl : Hid (nl = p.nd.length) := hnl
        have hb3 : Below wr.heap.size wr (wr.alloc (.cells #[.string p.nm, .string p.vr, .slice na nl nc] 44)) := (Below.refl _ _).alloc (Nat.le_refl _) _
        have hr3 : Row (wr.alloc (.cells #[.string p.nm, .string p.vr, .slice na nl nc] 44)) wr.heap.size #[.string p.nm, .string p.vr, .slice na nl nc] 44 := Row.new _ _ _
        obtain ⟨w3, hw3⟩ : ∃ x, x = wr.alloc (.cells #[.string p.nm, .string p.vr, .slice na nl nc] 44) := ⟨_, rfl⟩
        rw [← hw3] at hb3 hr3
        have hw3' := hw3.symm
        obtain ⟨k5, hk5⟩ : ∃ k, k = wr.heap.size := ⟨_, rfl⟩
        have hk5' := hk5.symm
        rw [← hk5] at hr3
        have HB3 : Hid (Below w.heap.size w w3) := HB.out.trans (hb3.mono HB.out.size)
        have HBf3 : Hid (BF.Buf w3 w.heap.size u5 X) := BF.Buf.keep HBf.out hb3
        have HR3 : Hid (Row w3 k5 #[.string p.nm, .string p.vr, .slice na nl nc] 44) := hr3
        have hal := BF.appendLine_ok w.heap.size u5 X ⟨#[112, 97, 99, 107, 97, 103, 101]⟩ p.nm p.vr w3 HBf3.out HB3.out.size (by have e : (⟨#[112, 97, 99, 107, 97, 103, 101]⟩ : ByteArray).size = 7 := rfl; omega)
        have d0 : w3.cell? ⟨k5, 0, none⟩ = some (.string p.nm) := (hr3.cell 0).trans rfl
        have d1 : w3.cell? ⟨k5, 1, none⟩ = some (.string p.vr) := (hr3.cell 1).trans rfl
        clear hp hnl hw3 hk5 hb3 hpL hno hrg0 hs4 hr3
        go_wp2_with (first | refine wpList_load_mid rfl 44 _ rfl g (off + i * 3) rfl _ _ hrg Tryz.underlying44 rfl infoPk ?_ | (refine wpList_store_new rfl 44 _ _ rfl wr zeroPk #[.string p.nm, .string p.vr, .slice na nl nc] 44 rfl wr.heap.size rfl rfl rfl infoPk rfl (pk_one _ _ _ _ _) ?_; rw [hw3']; rw [hk5']) | fail)
        refine hal.mono ?_
        rintro e w4 ⟨v4, rfl, hm4⟩
        have HBf4 : Hid (BF.Buf w4 w.heap.size v4 (X ++ lineI wPack (vb p.nm) (vb p.vr))) := hm4.buf
        have HB4 : Hid (Below w.heap.size w w4) := HB3.out.trans (hm4.below HBf3.out HB3.out.size)
        have hr4 : Row w4 k5 #[.string p.nm, .string p.vr, .slice na nl nc] 44 := hm4.row HBf3.out HR3.out (by decide)
        have d2 : w4.cell? ⟨k5, 2, none⟩ = some (.slice na nl nc) := (hr4.cell 2).trans rfl
        obtain ⟨Y, hY⟩ : ∃ Y, Y = X ++ lineI wPack (vb p.nm) (vb p.vr) := ⟨_, rfl⟩
        rw [← hY] at HBf4
        have hYl : Y.length ≤ 1000 * 268438000 + 90 := by rw [hY, List.length_append, lineI_len, vb_len, vb_len]; have : wPack.length = 7 := rfl; omega
        have HTk2 : Hid (textL (L.take (i + 1)) = Y ++ (p.nd.map needT).flatten) := by show _ = _; rw [HTk.out, hY]; unfold packT; rw [List.append_assoc]
        clear hal hm4 hr4 hrg hw3' hY d0 d1 HB3 HBf3 HR3
        go_wp2
        clear d2
        go_loopw [5, 30] (fun bv jv wi => ∃ (j : Nat) (Z : By), j ≤ nl ∧ jv = .int .i64 j ∧ Hid (BF.Buf wi w.heap.size bv Z) ∧ Hid (Z = Y ++ ((p.nd.take j).map needT).flatten) ∧ Hid (Below w.heap.size w wi)) (fun _ jv _ => nl - (intOf jv).toNat)
        case atStart => exact ⟨0, Y, Nat.zero_le _, rfl, HBf4, by show _ = _; simp, HB4⟩
        case round =>
          obtain ⟨j, Z, hj, rfl, HBz, HZ, HBr⟩ := hrel
          by_cases hjl : j < nl
          · have hjl' : (j : Int) < (nl : Int) := by omega
            have hjd : j < p.nd.length := by have := HNl.out; omega
            obtain ⟨na', ng, noff, nc', hne, hncl, hn3, _, hn5⟩ := (HNo.out wr HBr.out).ex
            simp only [Value.slice.injEq] at hne
            obtain ⟨rfl, -, rfl⟩ := hne
            obtain ⟨rfl, hng⟩ := hn3 (by omega)
            have hrg := hn5 j hjd
            obtain ⟨nd, hndq⟩ : ∃ nd, nd = p.nd[j] := ⟨_, rfl⟩
            rw [← hndq] at hrg
            have hm1 := HS4.out nd (by rw [hndq]; exact List.getElem_mem _)
            have hm2 := HG4.out nd (by rw [hndq]; exact List.getElem_mem _)
            have HTj : Hid (Y ++ ((p.nd.take (j + 1)).map needT).flatten = Z ++ needT nd) := by show _ = _; rw [need_go hjd, HZ.out, hndq, List.append_assoc]
            have hZl : Z.length ≤ 1000 * 268438000 + 90 + 268437760 := by rw [HZ.out, List.length_append]; have := HNT.out j; omega
            have hb7 : Below wr.heap.size wr (wr.alloc (.cells #[.string nd.nm, .string nd.rg] 61)) := (Below.refl _ _).alloc (Nat.le_refl _) _
            have hr7 : Row (wr.alloc (.cells #[.string nd.nm, .string nd.rg] 61)) wr.heap.size #[.string nd.nm, .string nd.rg] 61 := Row.new _ _ _
            obtain ⟨w7, hw7⟩ : ∃ x, x = wr.alloc (.cells #[.string nd.nm, .string nd.rg] 61) := ⟨_, rfl⟩
            rw [← hw7] at hb7 hr7
            have hw7' := hw7.symm
            obtain ⟨k8, hk8⟩ : ∃ k, k = wr.heap.size := ⟨_, rfl⟩
            have hk8' := hk8.symm
            rw [← hk8] at hr7
            have HB7 : Hid (Below w.heap.size w w7) := HBr.out.trans (hb7.mono HBr.out.size)
            have HBz7 : Hid (BF.Buf w7 w.heap.size u5 Z) := BF.Buf.keep HBz.out hb7
            have hal := BF.appendLine_ok w.heap.size u5 Z ⟨#[110, 101, 101, 100, 115]⟩ nd.nm nd.rg w7 HBz7.out HB7.out.size (by have e : (⟨#[110, 101, 101, 100, 115]⟩ : ByteArray).size = 5 := rfl; omega)
            have d0 : w7.cell? ⟨k8, 0, none⟩ = some (.string nd.nm) := (hr7.cell 0).trans rfl
            have d1 : w7.cell? ⟨k8, 1, none⟩ = some (.string nd.rg) := (hr7.cell 1).trans rfl
            clear hndq hw7 hk8 hb7 hn3 hn5 hng hr7
            go_wp2_with (first | refine wpList_load_mid rfl 61 _ rfl ng (noff + j * 2) rfl _ _ hrg Tryz.underlying61 rfl infoNd ?_ | (refine wpList_store_new rfl 61 _ _ rfl wr zeroNd #[.string nd.nm, .string nd.rg] 61 rfl wr.heap.size rfl rfl rfl infoNd rfl (nd_one _ _) ?_; rw [hw7']; rw [hk8']) | fail)
            refine hal.mono ?_
            rintro e w8 ⟨v8, rfl, hm8⟩
            have HBf8 : Hid (BF.Buf w8 w.heap.size v8 (Z ++ needT nd)) := hm8.buf
            have HB8 : Hid (Below w.heap.size w w8) := HB7.out.trans (hm8.below HBz7.out HB7.out.size)
            clear hal hm8 hrg hw7' d0 d1
            go_wp2
            go_roundw
            case rel => exact ⟨j + 1, _, by omega, by go_num, HBf8, HTj.out.symm, HB8⟩
            case measure => simp [intOf]; omega
          · have hjl' : ¬ (j : Int) < (nl : Int) := by omega
            have HZ2 : Hid (Z = textL (L.take (i + 1))) := by show _ = _; rw [HTk2.out, HZ.out, List.take_of_length_le (by have := HNl.out; omega)]
            go_wp2
            go_roundw
            case rel => exact ⟨i + 1, Z, by omega, by go_num, HBz, HZ2, HBr⟩
            case measure => simp [intOf]; omega
      · have hlt' : ¬ (i : Int) < (n : Int) := by omega
        have hcv := BF.conv_buf wr w.heap.size _ X HBf.out
        have HXe : Hid (X = textL L) := by show _ = _; rw [HX.out, List.take_of_length_le (by have := HN.out; omega)]
        go_wp2
        go_ret2
        exact ⟨by rw [HE.out, ← HXe.out]; rfl, HB.out⟩
end Go.Proofs.YtkbhckjpmgkgjaaGreatDoor
namespace Go.Proofs.YtkbhckjpmgkgjaaGreatDoor
open Go.RowKit

theorem fields_ned : Tryz.prog.fieldsOf 61 = #[{ name := "Name", type := 9, offset := 0, embedded := false, tag := "", pkgPath := "", byteOffset := 0 }, { name := "Range", type := 9, offset := 1, embedded := false, tag := "", pkgPath := "", byteOffset := 16 }] := by kernel_rfl
theorem equal_ned (a b : ByteArray) (w : World) : (Op.equal 61 (.agg #[.string a, .string b]) (.agg #[.string a, .string b])).run Tryz.prog w = .ok true w := by
  have h := run_equalIn_struct (P := Tryz.prog) w 9999 61 #[.string a, .string b] #[.string a, .string b] (by rw [fields_ned]; exact Tryz.underlying61) (by kernel_rfl)
  refine (show (Op.equal 61 (.agg #[.string a, .string b]) (.agg #[.string a, .string b])).run Tryz.prog w = _ from h).trans ?_
  rw [fields_ned]
  have p1 := part_str (.string a) (.string b) w
  have q1 := run_equalIn_string (P := Tryz.prog) w 9998 9 a a Tryz.underlying9
  have q2 := run_equalIn_string (P := Tryz.prog) w 9998 9 b b Tryz.underlying9
  simp only [Op.eqFields, Sem.run_bind, Sem.run_ite, p1.1, p1.2, q1, q2, Result.andThen_ok, Sem.run_pure]
  simp
theorem guardN : Tryz.prog.eqGuardType Tryz.prog.depth 61 = false := by kernel_rfl
theorem exec_neqN {w : World} {o : Oper} {act : Act} (a b : ByteArray) (x y : Operand) (ho : o.op = .binOp .neq 61 x y 61) (hx : act.eval x = .agg #[.string a, .string b]) (hy : act.eval y = .agg #[.string a, .string b]) :
    (execOp act.eval o).run Tryz.prog w = .ok (.value (.bool false)) w := by
  unfold execOp
  simp only [ho, hx, hy]
  have h1 := run_eqGuard_agg (P := Tryz.prog) w .neq 61 x y #[.string a, .string b] #[.string a, .string b] guardN
  have h2 := run_neq_struct (P := Tryz.prog) w 61 #[.string a, .string b] #[.string a, .string b]
  have he : (Op.equalIn 10000 61 (.agg #[.string a, .string b]) (.agg #[.string a, .string b])).run Tryz.prog w = .ok true w := equal_ned a b w
  rw [he] at h2
  simp only [Sem.run_bind, Sem.run_pure, Result.andThen_ok, h1, h2]
  rfl
/-- Packages in memory: where each one's texts and needs lie. -/
theorem packs_at {L : List Pak} {pa : Option Addr} {pc : Nat} {w : World} (hL : PacksIn w (.slice pa L.length pc) L) (i : Nat) (hi : i < L.length) : ∃ g off na nc, pa = some ⟨g, off, none⟩ ∧ (∀ wx, Below w.heap.size w wx → wx.cell? ⟨g, off + i * 3, none⟩ = some (.string L[i].nm) ∧ wx.cell? ⟨g, off + i * 3 + 1, none⟩ = some (.string L[i].vr) ∧ wx.cell? ⟨g, off + i * 3 + 2, none⟩ = some (.slice na L[i].nd.length nc)) ∧ (0 < L[i].nd.length → ∃ ng noff, na = some ⟨ng, noff, none⟩ ∧ ∀ wx, Below w.heap.size w wx → ∀ j (h : j < L[i].nd.length), wx.rangeAt ng (noff + j * 2) (encN L[i].nd[j])) := by
  obtain ⟨a1, g, off, c1, he, h2, h3, h4, h5⟩ := hL.ex
  simp only [Value.slice.injEq, true_and] at he
  obtain ⟨rfl, rfl⟩ := he
  obtain ⟨rfl, hg⟩ := h3 (by omega)
  obtain ⟨nv, k1, k2⟩ := h5 i hi
  obtain ⟨na, ng, noff, nc, rfl, m2, m3, m4, m5⟩ := k2.ex
  refine ⟨g, off, na, nc, rfl, fun wx hx => ⟨?_, ?_, ?_⟩, fun h0 => ?_⟩
  · exact (hx.cell (p := ⟨g, off + i * 3 + 0, none⟩) hg).trans (k1 0 _ rfl)
  · exact (hx.cell (p := ⟨g, off + i * 3 + 1, none⟩) hg).trans (k1 1 _ rfl)
  · exact (hx.cell (p := ⟨g, off + i * 3 + 2, none⟩) hg).trans (k1 2 _ rfl)
  · obtain ⟨hna, hlt⟩ := m3 h0
    exact ⟨ng, noff, hna, fun wx hx j hj q u hq => (hx.cell (p := ⟨ng, noff + j * 2 + q, none⟩) hlt).trans (m5 j hj q u hq)⟩
set_option maxRecDepth 40000 in
set_option maxHeartbeats 16000000 in
theorem refSame_ok {L : List Pak} {pa qa : Option Addr} {pc qc : Nat} (w : World) (hP : PacksIn w (.slice pa L.length pc) L) (hQ : PacksIn w (.slice qa L.length qc) L) (hl : L.length ≤ 140737488355328) (hnd : ∀ p ∈ L, p.nd.length ≤ 140737488355328) : Calls Tryz.prog 9 #[.slice pa L.length pc, .slice qa L.length qc] w fun e w' => e = .returned (.bool true) ∧ Below w.heap.size w w' := by
  have HP : Hid (PacksIn w (.slice pa L.length pc) L) := hP
  have HQ : Hid (PacksIn w (.slice qa L.length qc) L) := hQ
  have HND : Hid (∀ p ∈ L, p.nd.length ≤ 140737488355328) := hnd
  have hpc : L.length ≤ pc := by obtain ⟨_, _, _, _, he, h2, _⟩ := hP.ex; simp only [Value.slice.injEq, true_and] at he; rw [he.2]; exact h2
  have hqc : L.length ≤ qc := by obtain ⟨_, _, _, _, he, h2, _⟩ := hQ.ex; simp only [Value.slice.injEq, true_and] at he; rw [he.2]; exact h2
  obtain ⟨n, hn⟩ : ∃ n, n = L.length := ⟨_, rfl⟩
  have HN : Hid (n = L.length) := hn
  rw [← hn]
  rw [← hn] at hl hpc hqc
  clear hP hQ hnd hn
  go_enter Tryz.func9, Tryz.ntmps9
  go_wp2
  go_loopw [5] (fun iv wi => ∃ i : Nat, i ≤ n ∧ iv = .int .i64 i ∧ Below w.heap.size w wi) (fun iv _ => n - (intOf iv).toNat)
  case atStart => exact ⟨0, Nat.zero_le _, rfl, Below.refl _ _⟩
  case round =>
    obtain ⟨i, hi, rfl, hb⟩ := hrel
    have HB : Hid (Below w.heap.size w wr) := hb
    clear hb
    by_cases hlt : i < n
    · have hlt' : (i : Int) < (n : Int) := by omega
      have hiL : i < L.length := by have := HN.out; omega
      obtain ⟨g, off, na, nc, rfl, hp1, hp2⟩ := packs_at HP.out i hiL
      obtain ⟨g', off', na', nc', rfl, hq1, hq2⟩ := packs_at HQ.out i hiL
      obtain ⟨p, hp⟩ : ∃ p, p = L[i] := ⟨_, rfl⟩
      rw [← hp] at hp1 hp2 hq1 hq2
      obtain ⟨m, hm⟩ : ∃ m, m = p.nd.length := ⟨_, rfl⟩
      have HM : Hid (m = p.nd.length) := hm
      have hm9 : m ≤ 140737488355328 := by rw [hm, hp]; exact HND.out _ (List.getElem_mem _)
      rw [← hm] at hp1 hq1
      have HBq : Hid (∀ q, Below w.heap.size w (wr.drewN q)) := fun q => HB.out.trans ⟨rfl, rfl, rfl, Nat.le_refl _, fun _ _ => rfl⟩
      have HP1 : Hid (∀ wx, Below w.heap.size w wx → wx.cell? ⟨g, off + i * 3, none⟩ = some (.string p.nm) ∧ wx.cell? ⟨g, off + i * 3 + 1, none⟩ = some (.string p.vr) ∧ wx.cell? ⟨g, off + i * 3 + 2, none⟩ = some (.slice na m nc)) := hp1
      have HQ1 : Hid (∀ wx, Below w.heap.size w wx → wx.cell? ⟨g', off' + i * 3, none⟩ = some (.string p.nm) ∧ wx.cell? ⟨g', off' + i * 3 + 1, none⟩ = some (.string p.vr) ∧ wx.cell? ⟨g', off' + i * 3 + 2, none⟩ = some (.slice na' m nc')) := hq1
      have HP2 : Hid _ := hp2
      have HQ2 : Hid _ := hq2
      obtain ⟨c0, c1, c2⟩ := HP1.out wr HB.out
      obtain ⟨e0, e1, e2⟩ := HQ1.out wr HB.out
      clear hp hm hp1 hp2 hq1 hq2
      go_wp2
      go_quiet (fail)
      go_wp2
      obtain ⟨wE, rfl⟩ : ∃ x, x = wr := ⟨wr, rfl⟩
      clear c0 c1 c2 e0 e1 e2
      go_loopw [6] (fun jv wi => ∃ j : Nat, j ≤ m ∧ jv = .int .i64 j ∧ Below w.heap.size w wi) (fun jv _ => m - (intOf jv).toNat)
      case atStart => exact ⟨0, Nat.zero_le _, rfl, HBq.out _⟩
      case round =>
        obtain ⟨j, hj, rfl, hb⟩ := hrel
        have HBj : Hid (Below w.heap.size w wr) := hb
        clear hb
        have c2 := (HP1.out wr HBj.out).2.2
        by_cases hjm : j < m
        · have hjm' : (j : Int) < (m : Int) := by omega
          have hjd : j < p.nd.length := by have := HM.out; omega
          obtain ⟨ng, noff, hna, hr1⟩ := HP2.out (by omega)
          obtain ⟨ng', noff', hna', hr2⟩ := HQ2.out (by omega)
          subst hna
          subst hna'
          obtain ⟨nd, hnd⟩ : ∃ x, x = p.nd[j] := ⟨_, rfl⟩
          have HR1 : Hid (∀ wx, Below w.heap.size w wx → wx.rangeAt ng (noff + j * 2) (encN nd)) := fun wx hx => by rw [hnd]; exact hr1 wx hx j hjd
          have HR2 : Hid (∀ wx, Below w.heap.size w wx → wx.rangeAt ng' (noff' + j * 2) (encN nd)) := fun wx hx => by rw [hnd]; exact hr2 wx hx j hjd
          have HBd : Hid (Below w.heap.size w wr.drew) := HBj.out.drew
          clear hr1 hr2 hnd
          go_upto_region 11 with fail
          clear c2
          refine wp_region_permA [(false, 0), (false, 1), (false, 2), (false, 3), (false, 4), (false, 5), (false, 6), (false, 7), (false, 8), (false, 9), (false, 10), (false, 11), (false, 12), (false, 13), (false, 14), (false, 15), (false, 16)] (fun wx => Below w.heap.size w wx) (by kernel_rfl) (by kernel_rfl) HBd.out ?_
          refine a_value (some 67) ?_ rfl rfl (by rfl) (fun wx hw => ?_) ?_
          rotate_left
          · go_simp
            with_reducible rfl
          simp only [Act.put, List.setIfInBounds_toArray, List.set_cons_zero, List.set_cons_succ]
          refine a_value (some 68) ?_ rfl rfl (by rfl) (fun wx hw => ?_) ?_
          rotate_left
          · go_simp
            with_reducible rfl
          simp only [Act.put, List.setIfInBounds_toArray, List.set_cons_zero, List.set_cons_succ]
          refine a_value (some 69) ?_ rfl rfl (by rfl) (fun wx hw => ?_) ?_
          rotate_left
          · go_simp
            with_reducible rfl
          simp only [Act.put, List.setIfInBounds_toArray, List.set_cons_zero, List.set_cons_succ]
          refine a_value (some 70) ?_ rfl rfl (by rfl) (fun wx hw => ?_) ?_
          rotate_left
          · go_simp
            with_reducible rfl
          simp only [Act.put, List.setIfInBounds_toArray, List.set_cons_zero, List.set_cons_succ]
          refine a_value (some 71) ?_ rfl rfl (by rfl) (fun wx hw => ?_) ?_
          rotate_left
          · have hc := (HP1.out wx hw).2.2
            go_simp
            with_reducible rfl
          simp only [Act.put, List.setIfInBounds_toArray, List.set_cons_zero, List.set_cons_succ]
          refine a_value (some 72) ?_ rfl rfl (by rfl) (fun wx hw => ?_) ?_
          rotate_left
          · go_simp
            with_reducible rfl
          simp only [Act.put, List.setIfInBounds_toArray, List.set_cons_zero, List.set_cons_succ]
          refine a_value (some 73) ?_ rfl rfl (by rfl) (fun wx hw => ?_) ?_
          rotate_left
          · go_simp
            with_reducible rfl
          simp only [Act.put, List.setIfInBounds_toArray, List.set_cons_zero, List.set_cons_succ]
          refine a_load_mid (some 74) 61 _ rfl rfl rfl (by rfl) ng (noff + j * 2) rfl (encN nd) _ (fun wx hw => HR1.out wx hw) Tryz.underlying61 rfl infoNd ?_
          simp only [Act.put, List.setIfInBounds_toArray, List.set_cons_zero, List.set_cons_succ]
          refine a_value (some 75) ?_ rfl rfl (by rfl) (fun wx hw => ?_) ?_
          rotate_left
          · go_simp
            with_reducible rfl
          simp only [Act.put, List.setIfInBounds_toArray, List.set_cons_zero, List.set_cons_succ]
          refine a_value (some 76) ?_ rfl rfl (by rfl) (fun wx hw => ?_) ?_
          rotate_left
          · go_simp
            with_reducible rfl
          simp only [Act.put, List.setIfInBounds_toArray, List.set_cons_zero, List.set_cons_succ]
          refine a_value (some 77) ?_ rfl rfl (by rfl) (fun wx hw => ?_) ?_
          rotate_left
          · go_simp
            with_reducible rfl
          simp only [Act.put, List.setIfInBounds_toArray, List.set_cons_zero, List.set_cons_succ]
          refine a_value (some 78) ?_ rfl rfl (by rfl) (fun wx hw => ?_) ?_
          rotate_left
          · go_simp
            with_reducible rfl
          simp only [Act.put, List.setIfInBounds_toArray, List.set_cons_zero, List.set_cons_succ]
          refine a_value (some 79) ?_ rfl rfl (by rfl) (fun wx hw => ?_) ?_
          rotate_left
          · have hc := (HQ1.out wx hw).2.2
            go_simp
            with_reducible rfl
          simp only [Act.put, List.setIfInBounds_toArray, List.set_cons_zero, List.set_cons_succ]
          refine a_value (some 80) ?_ rfl rfl (by rfl) (fun wx hw => ?_) ?_
          rotate_left
          · go_simp
            with_reducible rfl
          simp only [Act.put, List.setIfInBounds_toArray, List.set_cons_zero, List.set_cons_succ]
          refine a_value (some 81) ?_ rfl rfl (by rfl) (fun wx hw => ?_) ?_
          rotate_left
          · go_simp
            with_reducible rfl
          simp only [Act.put, List.setIfInBounds_toArray, List.set_cons_zero, List.set_cons_succ]
          refine a_load_mid (some 82) 61 _ rfl rfl rfl (by rfl) ng' (noff' + j * 2) rfl (encN nd) _ (fun wx hw => HR2.out wx hw) Tryz.underlying61 rfl infoNd ?_
          simp only [Act.put, List.setIfInBounds_toArray, List.set_cons_zero, List.set_cons_succ]
          refine a_value (some 83) (.bool false) rfl rfl (by rfl) (fun wx hw => exec_neqN nd.nm nd.rg _ _ rfl rfl rfl) ?_
          simp only [Act.put, List.setIfInBounds_toArray, List.set_cons_zero, List.set_cons_succ]
          refine a_done ?_
          try simp only [Exit.then]
          go_wp2
          go_roundw
          case rel => exact ⟨j + 1, by omega, by go_num, HBd.out⟩
          case measure => simp [intOf]; omega
        · have hjm' : ¬ (j : Int) < (m : Int) := by omega
          go_wp2
          go_roundw
          case rel => exact ⟨i + 1, by omega, by go_num, HBj.out⟩
          case measure => simp [intOf]; omega
    · have hlt' : ¬ (i : Int) < (n : Int) := by omega
      go_wp2
      go_ret
      exact ⟨rfl, HB.out⟩
end Go.Proofs.YtkbhckjpmgkgjaaGreatDoor
namespace Go.Proofs.YtkbhckjpmgkgjaaGreatDoor
open Go.RowKit

theorem split_len (c : UInt8) (b : Nat) : ∀ (k : Nat) (l : By), (∀ x ∈ splitB c k l, x.length ≤ b) → l.length ≤ (k + 1) * (b + 1)
  | 0, l, h => by
    have := h l (by simp [splitB])
    omega
  | k + 1, l, h => by
    unfold splitB at h
    cases hx : cutAt c l with
    | none =>
      rw [hx] at h
      have := h l (by simp)
      have h2 : 1 * (b + 1) ≤ (k + 1 + 1) * (b + 1) := Nat.mul_le_mul_right _ (by omega)
      omega
    | some p =>
      rw [hx] at h
      have h1 := split_len c b k p.2 fun x hx => h x (List.mem_cons_of_mem _ hx)
      have h2 := h p.1 (by simp)
      rw [(cutAt_back (a := p.1) (r := p.2) hx).1, List.length_append, List.length_cons]
      have h3 : (k + 1 + 1) * (b + 1) = (k + 1) * (b + 1) + (b + 1) := by rw [Nat.add_mul (k + 1) 1, Nat.one_mul]
      omega
def T1 : ByteArray := ⟨#[112, 97, 99, 107, 97, 103, 101, 32, 97, 32, 49, 46, 48, 10, 110, 101, 101, 100, 115, 32, 98, 32, 94, 49, 10]⟩
def L1 : List Pak := [⟨⟨#[97]⟩, ⟨#[49, 46, 48]⟩, [⟨⟨#[98]⟩, ⟨#[94, 49]⟩⟩]⟩]
theorem text_one : textL L1 = vb T1 := by kernel_rfl
theorem pv_one : (parseV [49, 46, 48]).isNone = false := by rfl
theorem ts_one : ∃ C, termS [94, 49] = some C := ⟨_, rfl⟩
theorem rg_one : (rangeS [94, 49]).isNone = false := by
  obtain ⟨C, hC⟩ := ts_one
  have h1 : altS [94, 49] = some C := alt_oneI (by simp) hC
  have hs : splitB 124 16 [94, 49] = [[94, 49]] := by rw [splitB, cutAt_none (by simp)]
  unfold rangeS gatherS
  rw [hs, if_neg (by decide), gath1_cons, h1]
  rfl
theorem right_one : rightL L1 = 0 := by
  have n1 : nameI (vb ⟨#[97]⟩) = true := by decide
  have n2 : nameI (vb ⟨#[98]⟩) = true := by decide
  have r1 : rightN ⟨⟨#[98]⟩, ⟨#[94, 49]⟩⟩ [] = 0 := by
    unfold rightN
    rw [if_neg (by rw [n2]; decide), if_neg (by rw [show vb (⟨#[94, 49]⟩ : ByteArray) = [94, 49] from rfl, rg_one]; decide), if_neg (by simp)]
  have p1 : rightP ⟨#[97]⟩ ⟨#[49, 46, 48]⟩ [] = 0 := by
    unfold rightP
    rw [if_neg (by rw [n1]; decide), if_neg (by rw [show vb (⟨#[49, 46, 48]⟩ : ByteArray) = [49, 46, 48] from rfl, pv_one]; decide), if_neg (by simp)]
  have q1 : needsE [] [(⟨⟨#[98]⟩, ⟨#[94, 49]⟩⟩ : Ned)] = 0 := (needsE_snoc0 (l := [])).2 ⟨rfl, r1⟩
  refine rightL_zero.2 ⟨⟨by decide, fun p hp => ?_⟩, (packsE_snoc0 (L := []) (p := ⟨⟨#[97]⟩, ⟨#[49, 46, 48]⟩, [⟨⟨#[98]⟩, ⟨#[94, 49]⟩⟩]⟩) (A := [])).2 ⟨rfl, packE_zero.2 ⟨p1, q1⟩⟩⟩
  rw [List.mem_singleton.1 hp]
  decide
theorem parse_one : parseI (vb T1) = (L1, 0, 0) := by
  rw [← text_one]
  exact parse_text_of right_one (by rw [text_one]; decide)
theorem term_small {l : By} {L : List Cut} (h : termS l = some L) : l.length ≤ 64 := by
  unfold termS at h
  by_cases h42 : l = [42]
  · rw [h42]; decide
  · rw [if_neg h42] at h
    cases hf : l.findIdx? digB with
    | none => rw [hf] at h; cases h
    | some k =>
      rw [hf] at h
      simp only at h
      cases hp : parseV (l.drop k) with
      | none => rw [hp] at h; cases h
      | some v =>
        rw [hp] at h
        simp only at h
        obtain ⟨m1, m2⟩ := parse_back hp
        have h1 := textV_small m1
        rw [m2] at h1
        have h2 := sign_op h
        have h3 : (l.take k).length ≤ 2 := by
          unfold signsR at h2
          simp only [List.mem_cons, List.not_mem_nil, or_false] at h2
          rcases h2 with e | e | e | e | e | e | e <;> (rw [e]; decide)
        have h4 := congrArg List.length (List.take_append_drop k l)
        rw [List.length_append] at h4
        omega
theorem range_small {l : By} {R : List Cut} (h : rangeS l = some R) : l.length ≤ 4194304 := by
  have h1 := split_len 124 (17 * 65) 16 l fun x hx => by
    obtain ⟨L, hL⟩ := gather_some h x hx
    have h2 := split_len 44 64 16 x fun y hy => by
      obtain ⟨M, hM⟩ := gather_some hL y hy
      exact term_small hM
    omega
  omega
theorem right_rg {L : List Pak} (h : rightL L = 0) : RgS L := fun p hp n hn => by
  obtain ⟨⟨_, g2⟩, g3⟩ := rightL_zero.1 h
  obtain ⟨B, hB⟩ := packs_mem g3 p hp
  obtain ⟨k1, k2⟩ := packE_parts hB
  obtain ⟨A, hA⟩ := needs_mem k2 n hn
  obtain ⟨_, ⟨x, hx⟩, _⟩ := rightN_ok hA
  have := range_small hx
  rw [vb_len] at this
  exact this
set_option maxRecDepth 40000 in
/-- Text of any packages, not too many. -/
theorem textAny_ok {L : List Pak} {pv : Value} (w : World) (hL : PacksIn w pv L) (hF : FitP L) (hl : L.length ≤ 1000) : Calls Tryz.prog 14 #[pv] w fun e w' => e = .returned (textIE L) ∧ Below w.heap.size w w' := by
  by_cases hz : rightL L = 0
  · exact textI_ok w hL hF (right_rg hz) hl
  · have hri := right_ok w hL hF (by omega)
    obtain ⟨R, hR⟩ : ∃ R, R = rightL L := ⟨_, rfl⟩
    rw [← hR] at hri hz
    have HE : Hid (textIE L = .tuple #[.string ⟨#[]⟩, .int .i64 R]) := textIE_no hR hz
    have hzb := beqI hz
    obtain ⟨a, g, off, c, rfl, _⟩ := hL.ex
    clear hL hR hF
    go_enter Tryz.func14, Tryz.ntmps14
    go_wp2_with fail
    refine hri.mono ?_
    rintro e w1 ⟨rfl, hb1⟩
    have HB1 : Hid (Below w.heap.size w w1) := hb1
    clear hri hb1
    go_wp2
    go_ret2
    exact ⟨by rw [HE.out]; rfl, HB1.out⟩
theorem text_many : ∀ L : List Pak, 10 * L.length ≤ (textL L).length
  | [] => Nat.zero_le _
  | p :: r => by
    have h := text_many r
    show 10 * (r.length + 1) ≤ (packT p ++ textL r).length
    have h2 : 10 ≤ (packT p).length := by
      unfold packT
      rw [List.length_append, lineI_len]
      have : wPack.length = 7 := rfl
      omega
    rw [List.length_append]
    omega
theorem fit_of_right {L : List Pak} (h : rightL L = 0) : FitP L := fun p hp => by
  obtain ⟨h1, h2, _, h4⟩ := right_small h p hp
  refine ⟨by omega, by omega, fun n hn => ⟨?_, ?_⟩⟩
  · have := h4 n hn
    omega
  · have := right_rg h p hp n hn
    omega
end Go.Proofs.YtkbhckjpmgkgjaaGreatDoor
