/- My own work: archives as lists of bytes; rows of bytes of one's own that grow: by a slice, by a text, by noughts. -/
import Derived.Test.YtimiginpdkokiaaDoorByts
import Derived.Test.YtimiginpdkokiaaDoorNd
import Derived.Deep.AppendSrc
import Derived.Lib.AppendStr
import Derived.Lib.AppendZeros
namespace Go.Proofs.YtimiginpdkokiaaDoor
open Go.RowKit

/-- Bytes as cells. -/
def u8s (X : List UInt8) : List Value := X.map fun b => Value.int .u8 b.toNat
theorem u8s_append (X Y : List UInt8) : u8s (X ++ Y) = u8s X ++ u8s Y := by simp [u8s]
theorem u8s_length (X : List UInt8) : (u8s X).length = X.length := by simp [u8s]
theorem u8s_one (X : List UInt8) : ∀ u ∈ u8s X, u.oneCell' = true := fun u hu => by
  obtain ⟨_, _, rfl⟩ := List.mem_map.1 hu
  rfl
/-- How many noughts fill up so many bytes. -/
def fillN (n : Nat) : Nat := (8 - n % 8) % 8
/-- A number in eight bytes. -/
def be8 (n : Nat) : List UInt8 := (List.range 8).map fun j => UInt8.ofNat (n / 2 ^ (8 * (7 - j)) % 256)
theorem be8_length (n : Nat) : (be8 n).length = 8 := by simp [be8]
/-- A string in an archive. -/
def strU (s : ByteArray) : List UInt8 := be8 s.size ++ s.data.toList ++ List.replicate (fillN s.size) 0
def strsU (l : List ByteArray) : List UInt8 := l.flatMap strU
theorem strU_length (s : ByteArray) : (strU s).length = 8 + s.size + fillN s.size := by
  unfold strU
  simp only [List.length_append, be8_length, List.length_replicate, Array.length_toList]
  rfl
theorem fillN_lt (n : Nat) : fillN n < 8 := Nat.mod_lt _ (by omega)
theorem strsU_cons (s : ByteArray) (l : List ByteArray) : strsU (s :: l) = strU s ++ strsU l := by simp [strsU]
theorem strsU_append (l l' : List ByteArray) : strsU (l ++ l') = strsU l ++ strsU l' := by simp [strsU]

theorem row_apart {w : World} {k k' : Nat} {C C' : Array Value} {t t' : TypeId} (h : Row w k C t) (h' : Row w k' C' t') (ht : t ≠ t') : k ≠ k' := fun e => by
  subst e
  have := h.symm.trans h'
  simp at this
  exact ht this.2
/-- A row of bytes of one's own. -/
abbrev Buf (w : World) (B : Nat) (v : Value) (X : List UInt8) : Prop := w.ownsRow B 5 1 v X.length (u8s X)
/-- It has become another one, and nothing else has changed. -/
structure More (B : Nat) (w : World) (v : Value) (w' : World) (v' : Value) (Z : List UInt8) : Prop where
  buf : Buf w' B v' Z
  grown : w.grownBy w' v.ownBlock
  new : v'.ownBlock = v.ownBlock ∨ ∃ k, v'.ownBlock = some k ∧ w.heap.size ≤ k
theorem Buf.keep {w w' : World} {B : Nat} {v : Value} {X : List UInt8} (h : Buf w B v X) (hb : Below w.heap.size w w') : Buf w' B v X :=
  ownsRow_keep h fun k hk _ => hb.block k (ownsRow_lt h k hk).1
theorem Below.grownBy {w w' : World} (hb : Below w.heap.size w w') (r : Option Nat) : w.grownBy w' r := ⟨hb.os, hb.tape, hb.output, hb.size, fun k hk _ => hb.block k hk⟩
theorem grown_trans {w w1 w2 : World} {r r1 : Option Nat} (h1 : w.grownBy w1 r) (hr : r1 = r ∨ ∃ k, r1 = some k ∧ w.heap.size ≤ k) (h2 : w1.grownBy w2 r1) : w.grownBy w2 r :=
  ⟨h2.os.trans h1.os, h2.tape.trans h1.tape, h2.output.trans h1.output, Nat.le_trans h1.size h2.size, fun k hk hne => by
    have hs := h1.size
    refine (h2.block k (by omega) ?_).trans (h1.block k hk hne)
    rcases hr with e | ⟨q, e, hq⟩
    · rw [e]; exact hne
    · rw [e]; intro e1; simp only [Option.some.injEq] at e1; omega⟩
theorem More.trans {B : Nat} {w w1 w2 : World} {v v1 v2 : Value} {X Y : List UInt8} (h1 : More B w v w1 v1 X) (h2 : More B w1 v1 w2 v2 Y) : More B w v w2 v2 Y :=
  ⟨h2.buf, grown_trans h1.grown h1.new h2.grown, by
    have hs := h1.grown.size
    rcases h2.new with e | ⟨k, e, hk⟩
    · rw [e]; exact h1.new
    · exact .inr ⟨k, e, by omega⟩⟩
/-- Ahead of it something else was made. -/
theorem More.after {B : Nat} {w w1 w2 : World} {v v2 : Value} {Y : List UInt8} (hb : Below w.heap.size w w1) (h2 : More B w1 v w2 v2 Y) : More B w v w2 v2 Y :=
  ⟨h2.buf, grown_trans (Below.grownBy hb v.ownBlock) (.inl rfl) h2.grown, by
    have hs := hb.size
    rcases h2.new with e | ⟨k, e, hk⟩
    · exact .inl e
    · exact .inr ⟨k, e, by omega⟩⟩
theorem More.refl {B : Nat} {w : World} {v : Value} {X : List UInt8} (h : Buf w B v X) : More B w v w v X := ⟨h, ⟨rfl, rfl, rfl, Nat.le_refl _, fun _ _ _ => rfl⟩, .inl rfl⟩
/-- What lay below the row's base stays. -/
theorem More.below {B : Nat} {w w' : World} {v v' : Value} {X Z : List UInt8} (h : More B w v w' v' Z) (h0 : Buf w B v X) (hB : B ≤ w.heap.size) : Below B w w' :=
  own_grown h0 (Below.refl B w) hB h.grown
/-- Rows of other elements stay. -/
theorem More.row {B : Nat} {w w' : World} {v v' : Value} {X Z : List UInt8} (h : More B w v w' v' Z) (h0 : Buf w B v X) {k : Nat} {C : Array Value} {t : TypeId} (hr : Row w k C t) (ht : t ≠ 5) : Row w' k C t :=
  (h.grown.block k hr.lt (fun e1 => by
    obtain ⟨_, _, c2, r2⟩ := ownsRow_lt h0 k e1.symm
    exact row_apart hr r2 ht rfl)).trans hr

section
variable {P : Program} (w : World)
/-- 'append', onto a row of bytes of one's own, of whatever yields bytes. -/
theorem run_append_src (B : Nat) (t tx ty : TypeId) (i : TypeInfo) (ht : P.underlying t = some (.slice 5)) (hi : P.info? 5 = some i) (hz : i.zero = some (.int .u8 0)) (hsize : i.size = 1) (hby : i.bytes = 1)
    (v : Value) (X : List UInt8) (hown : Buf w B v X) (x : Value) (Y : List UInt8) (hs : Src P 1 tx x Y.length (u8s Y) w) (hln : X.length + Y.length ≤ 140737488355328) (hB : B ≤ w.heap.size) :
    ∃ v' w', (Builtin.append_ #[t, tx] ty #[v, x]).run P w = .ok v' w' ∧ More B w v w' v' (X ++ Y) := by
  have h63 : X.length + Y.length ≤ maxLen := by unfold maxLen; omega
  have hlen : (u8s (X ++ Y)).length = (X ++ Y).length * 1 := by rw [u8s_length, Nat.mul_one]
  have hlen2 : (X ++ Y).length = X.length + Y.length := List.length_append
  have grown : ∀ (old : Nat), ∀ (row : Option Nat),
      (w.drew.alloc (.cells ((u8s X ++ u8s Y).toArray ++ Builtin.zeroCells (Value.int .u8 0).cells (grownCap w (X.length + Y.length) old 5 - (X.length + Y.length))) 5)).ownsRow B 5 1
        (.slice (some ⟨w.heap.size, 0, none⟩) (X.length + Y.length) (grownCap w (X.length + Y.length) old 5)) (X ++ Y).length (u8s (X ++ Y)) ∧
      w.grownBy (w.drew.alloc (.cells ((u8s X ++ u8s Y).toArray ++ Builtin.zeroCells (Value.int .u8 0).cells (grownCap w (X.length + Y.length) old 5 - (X.length + Y.length))) 5)) row := by
    intro old row
    have hge := grownCap_ge w (X.length + Y.length) old 5
    have hcm : grownCap w (X.length + Y.length) old 5 ≤ maxLen := grownCap_le_maxLen w _ old 5 h63
    refine ⟨⟨hlen, .inr ⟨w.heap.size, _, _, by rw [hlen2], hB, heap_alloc_new w.drew _, by rw [hlen2]; exact hge, hcm, ?_, ?_⟩⟩, ⟨rfl, rfl, rfl, by simp, fun k hk _ => Below.heap_alloc w.drew _ k hk⟩⟩
    · have hz1 : (Value.int IntKind.u8 0).cells.size = 1 := rfl
      simp only [Array.size_append, List.size_toArray, size_zeroCells, hz1, List.length_append, u8s_length]
      omega
    · rw [Array.toList_append, ← u8s_append, ← hlen]
      exact List.take_left
  rcases hown.2 with ⟨rfl, h0⟩ | ⟨g, cap, cur, rfl, hbg, hg, hnc, hcm, hcs, htake⟩
  · have hX : X = [] := List.eq_nil_of_length_eq_zero h0
    subst hX
    by_cases hm : Y.length = 0
    · have hY : Y = [] := List.eq_nil_of_length_eq_zero hm
      subst hY
      refine ⟨.slice none 0 0, w, ?_, More.refl (World.ownsRow_nil w B 5 1)⟩
      have hc : (Builtin.firstCells 1 0 x).run P w = .ok #[] w := hs.cells
      have hl : (Builtin.lenOf x).run P w = .ok 0 w := hs.len w
      rcases hs.kind with ⟨e', hk⟩ | hk <;> simp [Builtin.append_, run_underlying ht, run_underlying hk, sizeOf, typeInfo, hi, hsize, hl, hc]
    · have hr := run_append_grow_src (P := P) w t tx ty 5 i (.int .u8 0) ht hi hz none 0 0 [] (by simpa using run_firstCells_none (P := P) w.drew i.size 0 0 0) x Y.length (u8s Y) (by rw [hsize]; exact hs) (by omega) (by omega) (by rw [hby, nextslicecap_zero (by omega)]; simp only [List.length_nil] at hln; omega)
      have hgr := grown 0 (Value.ownBlock (.slice none 0 0))
      simp only [List.length_nil, Nat.zero_add] at hr hgr ⊢
      exact ⟨_, _, hr, hgr.1, hgr.2, .inr ⟨_, rfl, Nat.le_refl _⟩⟩
  · by_cases hroom : X.length + Y.length ≤ cap
    · have hcs' : cur.size = cap := by simpa using hcs
      have ht' : cur.toList.take X.length = u8s X := by simpa using htake
      have hst := run_storeCells_at P g X.length 5 (u8s Y) 0 cur w hg (by rw [u8s_length]; omega) (u8s_one Y)
      simp only [Nat.add_zero, u8s_length] at hst
      have hr : (Builtin.append_ #[t, tx] ty #[.slice (some ⟨g, 0, none⟩) X.length cap, x]).run P w = .ok (.slice (some ⟨g, 0, none⟩) (X.length + Y.length) cap) (w.setRow g (cur.toList.take X.length ++ u8s Y ++ cur.toList.drop (X.length + Y.length)).toArray) := by
        rcases hs.kind with ⟨e', hk⟩ | hk <;> simp [Builtin.append_, run_underlying ht, run_underlying hk, sizeOf, typeInfo, hi, hsize, hs.len, hroom, hs.cells, Addr.add_lit, hst]
      refine ⟨_, _, hr, ⟨hlen, .inr ⟨g, cap, _, by rw [hlen2], hbg, setRow_heap w g cur _ 5 _ hg, by rw [hlen2]; exact hroom, hcm, ?_, ?_⟩⟩, ⟨rfl, rfl, rfl, by simp, fun k _ hk => setRow_other w g k _ (fun e => hk (by simp [Value.ownBlock, e]))⟩, .inl rfl⟩
      · simp only [List.size_toArray, List.length_append, List.length_take, List.length_drop, Array.length_toList, u8s_length]
        omega
      · rw [ht', ← u8s_append, Nat.mul_one, show (X ++ Y).length = (u8s (X ++ Y)).length by rw [u8s_length]]
        exact List.take_left
    · have holds : ∀ j u, (u8s X)[j]? = some u → w.drew.cell? ((⟨g, 0, none⟩ : Addr).add j) = some u := hown.cells (g := g) rfl
      have hr := run_append_grow_src (P := P) w t tx ty 5 i (.int .u8 0) ht hi hz (some ⟨g, 0, none⟩) X.length cap (u8s X) (run_firstCells_some w.drew i.size X.length ⟨g, 0, none⟩ X.length cap (u8s X) (by rw [hsize, u8s_length, Nat.mul_one]) holds) x Y.length (u8s Y) (by rw [hsize]; exact hs) (by omega) (by omega) (by rw [hby]; exact growslice_fits (by omega) (by omega))
      have hgr := grown cap (Value.ownBlock (.slice (some ⟨g, 0, none⟩) X.length cap))
      exact ⟨_, _, hr, hgr.1, hgr.2, .inr ⟨_, rfl, Nat.le_refl _⟩⟩
/-- A text of noughts. -/
def zs (n : Nat) : ByteArray := ⟨Array.replicate n 0⟩
theorem zs_size (n : Nat) : (zs n).size = n := by simp [zs, ByteArray.size]
theorem zs_cells (n : Nat) : (zs n).data.map (fun b => Value.int .u8 b.toNat) = Builtin.zeroCells (Value.int .u8 0).cells n := by
  apply Array.ext
  · have hz1 : (Value.int IntKind.u8 0).cells.size = 1 := rfl
    simp [zs, size_zeroCells, hz1]
  · intro k h1 h2
    have e : (Value.int IntKind.u8 0).cells = #[Value.int .u8 0] := rfl
    simp [zs, Builtin.zeroCells, e, Nat.mod_one]
/-- 'append' of 'make': as a text of noughts. -/
theorem run_append_zeros (t u tn ty : TypeId) (kn : IntKind) (i : TypeInfo) (ht : P.underlying t = some (.slice 5)) (hu : P.underlying u = some .string) (htn : P.underlying tn = some (.int kn)) (hi : P.info? 5 = some i) (hz : i.zero = some (.int .u8 0)) (hsize : i.size = 1) (hby : i.bytes = 1)
    (base : Option Addr) (l c n : Nat) (hn : n ≤ 8) (hfit : l + n ≤ 140737488355328) :
    (Builtin.append_ #[t, tn] ty #[.slice base l c, .int .i64 n]).run P w = (Builtin.append_ #[t, u] ty #[.slice base l c, .string (zs n)]).run P w := by
  have hw : IntKind.i64.wrap (n : Int) = n := by rw [IntKind.wrap_i64]; omega
  have hw0 : IntKind.i64.wrap 0 = 0 := by rw [IntKind.wrap_i64]; omega
  have hneg : ¬ ((n : Int) < 0) := by omega
  have h48 : ¬ (281474976710656 < (n : Int)) := by omega
  have h63' : ¬ (9223372036854775807 < ((l : Int) + (n : Int))) := by omega
  have hf : (Builtin.firstCells 1 n (.string (zs n))) = pure (Builtin.zeroCells (Value.int .u8 0).cells n) := by
    have := zs_cells n
    have h := ByteArray.extract_zero_size (b := zs n)
    rw [zs_size] at h
    show (pure (((zs n).extract 0 n).data.map fun b => Value.int .u8 b.toNat) : Sem (Array Value)) = _
    rw [h, this]
  have hlen : Builtin.lenOf (.string (zs n)) = pure n := by simp [Builtin.lenOf, zs_size]
  have hzero : n = 0 → Builtin.zeroCells (Value.int .u8 0).cells n = #[] := fun h => by subst h; simp [Builtin.zeroCells]
  by_cases hroom : l + n ≤ c
  · by_cases h0 : n = 0
    · subst h0
      simp [Builtin.append_, run_underlying ht, run_underlying hu, run_underlying htn, sizeOf, typeInfo, hi, hsize, hby, asInt, asIntOf, hw0, hlen, hf, hzero]
      simp at hroom
      simp [hroom]
    · simp [Builtin.append_, run_underlying ht, run_underlying hu, run_underlying htn, sizeOf, typeInfo, zeroValue, hi, hz, hsize, hby, asInt, asIntOf, hw, hneg, h48, hlen, hf, hroom, h0]
  · have hcap : ¬ (281474976710656 < Builtin.nextslicecap (l + n) c) := by
      have := growslice_fits (need := l + n) (old := c) (bytes := 1) (by omega) (by omega)
      omega
    by_cases h0 : n = 0
    · subst h0
      simp [Builtin.append_, run_underlying ht, run_underlying hu, run_underlying htn, sizeOf, typeInfo, zeroValue, hi, hz, hsize, hby, asInt, asIntOf, hw0, hlen, hf, hzero]
      simp at hroom hcap h63'
      simp [Nat.not_le.2 hroom, Nat.not_lt.2 hcap]
      intro hx
      exact absurd hx (by omega)
    · simp [Builtin.append_, run_underlying ht, run_underlying hu, run_underlying htn, sizeOf, typeInfo, zeroValue, hi, hz, hsize, hby, asInt, asIntOf, hw, hneg, h48, h63', hcap, hlen, hf, hroom, h0]
end
end Go.Proofs.YtimiginpdkokiaaDoor
