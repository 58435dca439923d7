/- My own work: what an info says of its path is put into a graph. -/
import Derived.Test.YtkbhckjpmgkgjaaG2
import Derived.Test.YtkbhckjpmgkgjaaG0
import Derived.Test.YtkbhckjpmgkgjaaPerm
namespace Go.Proofs.Ytkbhckjpmgkgjaa
open Go.RowKit
open Go.ChangeMaps (setBlock)

/-- An info: its path, its digest's text, its deriver, its references. -/
structure Inf where
  path : ByteArray
  hash : ByteArray
  der : ByteArray
  refs : List ByteArray
abbrev infV (i : Inf) (a : Option Addr) (c : Nat) : Array Value := #[.string i.path, .string i.hash, .string i.der, .slice a i.refs.length c]
structure InfAt (w : World) (i : Inf) (a : Option Addr) (c : Nat) : Prop where
  refs : StrsAt w a i.refs c
  path : i.path.size ≤ big
  hash : i.hash.size ≤ big
  der : i.der.size ≤ big
theorem InfAt.keep {w w' : World} {i : Inf} {a : Option Addr} {c : Nat} (h : InfAt w i a c) (hb : Below w.heap.size w w') : InfAt w' i a c := ⟨h.refs.keep hb, h.path, h.hash, h.der⟩
theorem infoI : (Try.prog.info? 33).map (·.size) = some 4 := by kernel_rfl
theorem infV_size (i : Inf) (a : Option Addr) (c : Nat) : (Try.prog.info? 33).map (·.size) = some (infV i a c).size := infoI
theorem infV_one (i : Inf) (a : Option Addr) (c : Nat) : (infV i a c).all (·.oneCell') = true := by simp [Value.oneCell']

/-- A graph that is being made: its paths lie in a row of their own, its derivers in block d, its edges in the map m. -/
structure GSt (w : World) (g m d : Nat) (a : Option Addr) (c : Nat) (P dv : List ByteArray) (E : List (Nat × Nat)) (es : Array MapEntry) (clk : Nat) : Prop where
  row : Row w g #[.slice a P.length c, .slice (some ⟨d, 0, none⟩) dv.length dv.length, .map (some m)] 51
  paths : StrsAt w a P c
  far : ∀ x, a = some x → x.block ≠ d
  der : Row w d (dv.map Value.string).toArray 9
  edges : EdgesAt w m E es clk
  up : Up P
  nd : E.Nodup
section
variable {w : World} {g m d : Nat} {a : Option Addr} {c : Nat} {P dv : List ByteArray} {E : List (Nat × Nat)} {es : Array MapEntry} {clk : Nat}
theorem GSt.keep (h : GSt w g m d a c P dv E es clk) {w' : World} (hb : Below w.heap.size w w') : GSt w' g m d a c P dv E es clk :=
  ⟨h.row.below hb h.row.lt, h.paths.keep hb, h.far, h.der.below hb h.der.lt, h.edges.keep (hb.block m (Array.getElem?_eq_some_iff.1 h.edges.obj).1), h.up, h.nd⟩
theorem GSt.drewN (h : GSt w g m d a c P dv E es clk) (q : Nat) : GSt (w.drewN q) g m d a c P dv E es clk := h.keep ⟨rfl, rfl, rfl, Nat.le_refl _, fun _ _ => rfl⟩
theorem StrsAt.heap {w w' : World} {a : Option Addr} {P : List ByteArray} {c : Nat} (h : StrsAt w a P c) (hb : 0 < P.length → ∀ x, a = some x → w'.heap[x.block]? = w.heap[x.block]?) : StrsAt w' a P c := by
  obtain ⟨b, off, h1, h2⟩ := h.ex
  refine ⟨⟨b, off, h1, fun i hi => ?_⟩, h.nil, h.le, h.cap, h.len, h.each⟩
  have := hb (by omega) ⟨b, off, none⟩ (h1 (by omega))
  exact (World.cell?_of_block (w := w) (a := ⟨b, off + i, none⟩) this).trans (h2 i hi)
theorem StrsAt.blk {w : World} {a : Option Addr} {P : List ByteArray} {c : Nat} (h : StrsAt w a P c) (h0 : 0 < P.length) : ∃ b off C t fr, a = some ⟨b, off, none⟩ ∧ w.heap[b]? = some (.cells C t fr) := by
  obtain ⟨b, off, h1, h2⟩ := h.ex
  have hc := h2 0 h0
  unfold World.cell? at hc
  cases hb : w.heap[b]? with
  | none => simp [hb] at hc
  | some o =>
    cases o with
    | cells C t fr => exact ⟨b, off, C, t, fr, h1 h0, hb⟩
    | _ => simp [hb] at hc
/-- Another block than the paths' is changed. -/
theorem StrsAt.other {w w' : World} {a : Option Addr} {P : List ByteArray} {c k : Nat} (h : StrsAt w a P c) (hk : ∀ i, i ≠ k → w'.heap[i]? = w.heap[i]?) (hf : 0 < P.length → ∀ x, a = some x → x.block ≠ k) : StrsAt w' a P c := h.heap fun h0 x hx => hk _ (hf h0 x hx)
/-- Texts lie in no map. -/
theorem StrsAt.noMap {w w' : World} {a : Option Addr} {P : List ByteArray} {c k : Nat} (h : StrsAt w a P c) (hk : ∀ i, i ≠ k → w'.heap[i]? = w.heap[i]?) {es : Array MapEntry} {ck : Nat} (hm : w.heap[k]? = some (.map es ck)) : StrsAt w' a P c := by
  by_cases h0 : 0 < P.length
  · obtain ⟨b, off, C, t, fr, h1, h2⟩ := h.blk h0
    refine h.other hk fun _ x hx e => ?_
    rw [h1] at hx
    cases hx
    simp only at e
    rw [e, hm] at h2
    cases h2
  · exact ⟨⟨0, 0, fun h => absurd h h0, fun i hi => absurd hi (by omega)⟩, h.nil, h.le, h.cap, h.len, h.each⟩
theorem row_noMap {w w' : World} {g k : Nat} {C : Array Value} {t : TypeId} (h : Row w g C t) (hk : ∀ i, i ≠ k → w'.heap[i]? = w.heap[i]?) {es : Array MapEntry} {ck : Nat} (hm : w.heap[k]? = some (.map es ck)) : Row w' g C t := by
  have h' : w.heap[g]? = some (.cells C t (0, 0)) := h
  refine (hk g fun e => ?_).trans h'
  rw [e, hm] at h'
  cases h'
theorem GSt.putE (h : GSt w g m d a c P dv E es clk) (x : Nat × Nat) : ∃ es' clk', (Instr.mapUpdate 49 (.map (some m)) (.agg #[.int .i64 (x.1 : Int), .int .i64 (x.2 : Int)]) (.agg #[])).run Try.prog w = .ok () (setBlock w m (.map es' clk')) ∧ GSt (setBlock w m (.map es' clk')) g m d a c P dv (putE E x) es' clk' := by
  obtain ⟨es', clk', h1, h2⟩ := put_edge h.edges x
  have ho : ∀ i, i ≠ m → (setBlock w m (.map es' clk')).heap[i]? = w.heap[i]? := fun i hi => setBlock_other hi
  exact ⟨es', clk', h1, row_noMap h.row ho h.edges.obj, h.paths.noMap ho h.edges.obj, h.far, row_noMap h.der ho h.edges.obj, h2, h.up, putE_nodup h.nd x⟩
theorem GSt.setDer (h : GSt w g m d a c P dv E es clk) (k : Nat) (x : ByteArray) : GSt (w.setCell ⟨d, k, none⟩ (.string x)) g m d a c P (dv.set k x) E es clk := by
  have ho : ∀ i, i ≠ d → (w.setCell ⟨d, k, none⟩ (.string x)).heap[i]? = w.heap[i]? := fun i hi => heap_setCell_other w ⟨d, k, none⟩ i _ hi
  have hgd : g ≠ d := fun e => by
    have h1 : w.heap[g]? = _ := h.row
    have h2 : w.heap[d]? = _ := h.der
    rw [e, h2] at h1
    simp only [Option.some.injEq, Obj.cells.injEq] at h1
    exact absurd h1.2.1 (by decide)
  have hmd : m ≠ d := fun e => by
    have h1 := h.edges.obj
    have h2 : w.heap[d]? = _ := h.der
    rw [e, h2] at h1
    cases h1
  refine ⟨?_, h.paths.other ho (fun _ => h.far), h.far, ?_, h.edges.keep (ho m hmd), h.up, h.nd⟩
  · rw [List.length_set]
    exact (ho g hgd).trans h.row
  · have := h.der.setCell (i := k) (.string x)
    rw [List.map_set]
    simpa using this
theorem GSt.cell0 (h : GSt w g m d a c P dv E es clk) : w.cell? ⟨g, 0, none⟩ = some (.slice a P.length c) := (h.row.cell 0).trans rfl
theorem GSt.number (h : GSt w g m d a c P dv E es clk) (x : ByteArray) : Calls Try.prog 33 #[.pointer (some ⟨g, 0, none⟩), .string x] w (NumPost P x w) := number_ok P x g a c w h.cell0 h.paths h.up
end
/-- Only blocks d and m, of those that were, lie otherwise. -/
structure Chg (d m : Nat) (A B : World) : Prop where
  os : B.os = A.os
  tape : B.tape = A.tape
  output : B.output = A.output
  size : A.heap.size ≤ B.heap.size
  blk : ∀ k, k < A.heap.size → k ≠ d → k ≠ m → B.heap[k]? = A.heap[k]?
theorem Chg.refl (d m : Nat) (A : World) : Chg d m A A := ⟨rfl, rfl, rfl, Nat.le_refl _, fun _ _ _ _ => rfl⟩
theorem Chg.trans {d m : Nat} {A B C : World} (h : Chg d m A B) (k : Chg d m B C) : Chg d m A C := ⟨k.os.trans h.os, k.tape.trans h.tape, k.output.trans h.output, Nat.le_trans h.size k.size, fun i hi h1 h2 => (k.blk i (by have := h.size; omega) h1 h2).trans (h.blk i hi h1 h2)⟩
theorem Chg.of_below {d m : Nat} {A B : World} (h : Below A.heap.size A B) : Chg d m A B := ⟨h.os, h.tape, h.output, h.size, fun k hk _ _ => h.block k hk⟩
theorem Chg.drewN (d m : Nat) (A : World) (q : Nat) : Chg d m A (A.drewN q) := ⟨rfl, rfl, rfl, Nat.le_refl _, fun _ _ _ _ => rfl⟩
theorem Chg.map (d m : Nat) (A : World) (o : Obj) : Chg d m A (setBlock A m o) := ⟨rfl, rfl, rfl, by rw [setBlock_size]; exact Nat.le_refl _, fun k _ _ h => setBlock_other h⟩
theorem Chg.der (d m : Nat) (A : World) (k : Nat) (x : Value) : Chg d m A (A.setCell ⟨d, k, none⟩ x) := ⟨rfl, rfl, rfl, by simp, fun i _ h _ => heap_setCell_other A ⟨d, k, none⟩ i _ h⟩
theorem Up.inj {P : List ByteArray} (h : Up P) {i j : Nat} {x : ByteArray} (hi : P[i]? = some x) (hj : P[j]? = some x) : i = j := by
  obtain ⟨h1, h2⟩ := List.getElem?_eq_some_iff.1 hi
  obtain ⟨h3, h4⟩ := List.getElem?_eq_some_iff.1 hj
  have hlt : ∀ (i j : Nat) (hi : i < P.length) (hj : j < P.length), P[i] = P[j] → ¬ i < j := fun i j hi hj e hij => by
    have := h.lt hij hj
    rw [e] at this
    exact lt_irr _ this
  have e := h2.trans h4.symm
  have := hlt i j h1 h3 e
  have := hlt j i h3 h1 e.symm
  omega
/-- What put leaves. -/
def PutPost (P : List ByteArray) (g m d : Nat) (a : Option Addr) (c : Nat) (dv : List ByteArray) (E : List (Nat × Nat)) (i : Inf) (w : World) (e : Ending) (w' : World) : Prop :=
  (∃ r, e = .returned r) ∧ Chg d m w w' ∧ ∃ k E' es' clk', P[k]? = some i.path ∧ GSt w' g m d a c P (dv.set k i.der) E' es' clk' ∧ ∀ x : Nat × Nat, x ∈ E' ↔ x ∈ E ∨ (x.1 = k ∧ ∃ r ∈ i.refs, P[x.2]? = some r)
set_option maxRecDepth 20000 in
set_option maxHeartbeats 8000000 in
theorem put_ok (P : List ByteArray) (g m d : Nat) (a : Option Addr) (c : Nat) (dv : List ByteArray) (E : List (Nat × Nat)) (es : Array MapEntry) (clk : Nat) (i : Inf) (ra : Option Addr) (rc : Nat) (w : World) (h : GSt w g m d a c P dv E es clk) (hi : InfAt w i ra rc) (hp : i.path ∈ P) (hr : ∀ r ∈ i.refs, r ∈ P) (hdl : dv.length = P.length) (hfar : 0 < i.refs.length → ∀ x, ra = some x → x.block ≠ d) :
    Calls Try.prog 26 #[.pointer (some ⟨g, 0, none⟩), .agg (infV i ra rc)] w (PutPost P g m d a c dv E i w) := by
  obtain ⟨w1, hw1⟩ : ∃ x, x = w.alloc (.cells (infV i ra rc) 33) := ⟨_, rfl⟩
  have hb1 : Below w.heap.size w w1 := by rw [hw1]; exact (Below.refl _ _).alloc (Nat.le_refl _) _
  have hr1 : Row w1 w.heap.size (infV i ra rc) 33 := by rw [hw1]; exact Row.new w _ _
  have hw1' := hw1.symm
  have hG1 := h.keep hb1
  have hdlt : d < w.heap.size := h.der.lt
  have hmlt : m < w.heap.size := (Array.getElem?_eq_some_iff.1 h.edges.obj).1
  have q0 := (hr1.cell 0).trans (rfl : _ = some (Value.string i.path))
  have H := hG1.number i.path
  have HG : Hid _ := hG1
  have HR1 : Hid _ := hr1
  have HI : Hid _ := hi.keep hb1
  have HC1 : Hid (Chg d m w w1) := Chg.of_below hb1
  have HP : Hid (i.path ∈ P ∧ (∀ r ∈ i.refs, r ∈ P)) := ⟨hp, hr⟩
  clear hw1 hb1 hr1 hG1 h hi hp hr
  go_enter Try.func26, Try.ntmps26
  go_wp2_with fail
  refine H.mono ?_
  rintro e w2 ⟨k, rfl, hk, hk2, q, rfl⟩
  clear H
  have hk' := hk HP.out.1
  have hkl : k < P.length := (List.getElem?_eq_some_iff.1 hk').1
  have hkd : (k : Int) < (dv.length : Int) := by omega
  have hkdn : k < dv.length := by omega
  clear hdl
  have hcl := clone_ok i.der
  have hdb := HI.out.der
  unfold big at hdb
  obtain ⟨w2, hw2⟩ : ∃ x, x = (w1.drewN q).drew := ⟨_, rfl⟩
  have hb2 : Below w1.heap.size w1 w2 := by rw [hw2]; exact ⟨rfl, rfl, rfl, Nat.le_refl _, fun _ _ => rfl⟩
  have hS2 : Row w2 g #[.slice a P.length c, .slice (some ⟨d, 0, none⟩) dv.length dv.length, .map (some m)] 51 ∧ Row w2 w.heap.size (infV i ra rc) 33 := ⟨Row.below HG.out.row hb2 (Row.lt HG.out.row), Row.below HR1.out hb2 (Row.lt HR1.out)⟩
  go_wp2
  refine wp_region_perm [(false, 0), (false, 1), (false, 2), (false, 3), (false, 4), (false, 5), (false, 6), (true, 7), (false, 8), (true, 9)] (fun wx => Row wx g #[.slice a P.length c, .slice (some ⟨d, 0, none⟩) dv.length dv.length, .map (some m)] 51 ∧ Row wx w.heap.size (infV i ra rc) 33) (by kernel_rfl) (by kernel_rfl) (by rw [← hw2]; exact hS2) ?_
  rw [← hw2]
  refine p_value (some 17) (.pointer (some ⟨g, 0, none⟩)) rfl rfl (by rfl) (fun w hw => ?_) ?_
  · go_simp
  simp only [Act.put, List.setIfInBounds_toArray, List.set_cons_zero, List.set_cons_succ]
  refine p_value (some 18) (.pointer (some ⟨g, 0, none⟩)) rfl rfl (by rfl) (fun w hw => ?_) ?_
  · go_simp
  simp only [Act.put, List.setIfInBounds_toArray, List.set_cons_zero, List.set_cons_succ]
  refine p_value (some 19) (.pointer (some ⟨g, 1, none⟩)) rfl rfl (by rfl) (fun w hw => ?_) ?_
  · go_simp
  simp only [Act.put, List.setIfInBounds_toArray, List.set_cons_zero, List.set_cons_succ]
  refine p_value (some 20) (.slice (some ⟨d, 0, none⟩) dv.length dv.length) rfl rfl (by rfl) (fun wx hw => ?_) ?_
  · have hc := (hw.1.cell 1).trans (rfl : _ = some (Value.slice (some ⟨d, 0, none⟩) dv.length dv.length))
    go_simp
  simp only [Act.put, List.setIfInBounds_toArray, List.set_cons_zero, List.set_cons_succ]
  refine p_value (some 21) (.int .i64 (k : Int)) rfl rfl (by rfl) (fun w hw => ?_) ?_
  · go_simp
  simp only [Act.put, List.setIfInBounds_toArray, List.set_cons_zero, List.set_cons_succ]
  refine p_value (some 22) (.pointer (some ⟨w.heap.size, 2, none⟩)) rfl rfl (by rfl) (fun w hw => ?_) ?_
  · go_simp
  simp only [Act.put, List.setIfInBounds_toArray, List.set_cons_zero, List.set_cons_succ]
  refine p_value (some 23) (.string i.der) rfl rfl (by rfl) (fun wx hw => ?_) ?_
  · have hc := (hw.2.cell 2).trans (rfl : _ = some (Value.string i.der))
    go_simp
  simp only [Act.put, List.setIfInBounds_toArray, List.set_cons_zero, List.set_cons_succ]
  refine p_call (some 24) rfl rfl (by rfl) 21 #[.string i.der] (by kernel_rfl) ?_
  refine (hcl w2 (by omega)).mono ?_
  rintro e w4 ⟨rfl, hb4⟩
  have hG4 := (HG.out.keep hb2).keep hb4
  have hr4 : Row w4 w.heap.size (infV i ra rc) 33 := hS2.2.below hb4 hS2.2.lt
  refine ⟨_, rfl, fun _ => ⟨hG4.row, hr4⟩, ?_⟩
  simp only [Act.put, List.setIfInBounds_toArray, List.set_cons_zero, List.set_cons_succ]
  refine p_value (some 25) (.pointer (some ⟨d, k, none⟩)) rfl rfl (by rfl) (fun wx hw => ?_) ?_
  · go_simp
  simp only [Act.put, List.setIfInBounds_toArray, List.set_cons_zero, List.set_cons_succ]
  have hcd : w4.cell? ⟨d, k, none⟩ = some (.string dv[k]) := by
    rw [hG4.der.cell k]
    simp [hkdn]
  have hfd := hG4.der.frozen k
  refine p_store (w4.setCell ⟨d, k, none⟩ (.string i.der)) rfl rfl (by rfl) (by go_simp) (fun h => absurd rfl h) ?_
  refine p_done ?_
  try simp only [Exit.then]
  have HG5 : Hid (GSt (w4.setCell ⟨d, k, none⟩ (.string i.der)) g m d a c P (dv.set k i.der) E es clk) := hG4.setDer k i.der
  have HC5 : Hid (Chg d m w (w4.setCell ⟨d, k, none⟩ (.string i.der))) := ((HC1.out.trans (Chg.of_below hb2)).trans (Chg.of_below hb4)).trans (Chg.der d m w4 k _)
  have hr5 : Row (w4.setCell ⟨d, k, none⟩ (.string i.der)) w.heap.size (infV i ra rc) 33 := hr4.setCell_other (by omega) _
  have hS5 : StrsAt (w4.setCell ⟨d, k, none⟩ (.string i.der)) ra i.refs rc := ((HI.out.refs.keep hb2).keep hb4).other (fun j hj => heap_setCell_other w4 ⟨d, k, none⟩ j _ hj) (fun h0 x hx => hfar h0 x hx)
  have hrl := hS5.len
  have hrc := hS5.le
  unfold big at hrl
  have HS5 : Hid _ := hS5
  have q5 := (hr5.cell 3).trans (rfl : _ = some (Value.slice ra i.refs.length rc))
  clear hcd hfd hG4 hr4 hr5 hS5 hb4 hb2 hS2 hw2 hcl q0 HG HR1 HI HC1
  generalize w4.setCell ⟨d, k, none⟩ (.string i.der) = w5 at *
  obtain ⟨n, hn⟩ : ∃ n, n = i.refs.length := ⟨_, rfl⟩
  have HN : Hid _ := hn
  rw [← hn] at hrl hrc q5
  clear hn
  go_wp2
  go_loopw [29] (fun iv wr => ∃ (j : Nat) (Ej : List (Nat × Nat)) (ej : Array MapEntry) (cj : Nat), iv = .int .i64 j ∧ j ≤ n ∧ Chg d m w wr ∧ StrsAt wr ra i.refs rc ∧ GSt wr g m d a c P (dv.set k i.der) Ej ej cj ∧ ∀ x : Nat × Nat, x ∈ Ej ↔ x ∈ E ∨ (x.1 = k ∧ ∃ t, ∃ ht : t < i.refs.length, t < j ∧ P[x.2]? = some i.refs[t])) (fun iv _ => n - (intOf iv).toNat)
  case atStart => exact ⟨0, E, es, clk, rfl, Nat.zero_le _, HC5.out, HS5.out, HG5.out, fun x => ⟨.inl, fun h => h.elim id fun ⟨_, t, _, h, _⟩ => absurd h (Nat.not_lt_zero _)⟩⟩
  case round =>
    obtain ⟨j, Ej, ej, cj, rfl, hj, hCj, hSj, hGj, hEj⟩ := hrel
    have HE : Hid _ := hEj
    have HCj : Hid _ := hCj
    have HGj : Hid _ := hGj
    have HSj : Hid _ := hSj
    clear hEj hCj hGj hSj
    by_cases hlt : j < n
    · have hjl : j < i.refs.length := by have := HN.out; omega
      obtain ⟨rb, ro, ha, hcs⟩ := HSj.out.ex
      obtain rfl := ha (by omega)
      have hcell := hcs j hjl
      obtain ⟨x, hx⟩ : ∃ x, x = i.refs[j] := ⟨_, rfl⟩
      rw [← hx] at hcell
      have HX : Hid _ := hx
      have H := HGj.out.number x
      have hlt' : (j : Int) < (n : Int) := by omega
      clear hx hcs ha
      go_wp2_with fail
      refine H.mono ?_
      rintro e w6 ⟨j2, rfl, hj2, _, q2, rfl⟩
      clear H
      have hxP : x ∈ P := HP.out.2 x (by rw [HX.out]; exact List.getElem_mem _)
      have hj2' := hj2 hxP
      have hG6 := HGj.out.drewN q2
      obtain ⟨es7, ck7, hrun, hG7⟩ := hG6.putE (k, j2)
      simp only at hrun
      have qm := (hG6.row.cell 2).trans (rfl : _ = some (Value.map (some m)))
      have HG7 : Hid _ := hG7
      have HC7 : Hid (Chg d m w (setBlock (wr.drewN q2) m (.map es7 ck7))) := (HCj.out.trans (Chg.drewN d m wr q2)).trans (Chg.map d m _ _)
      have HS7 : Hid (StrsAt (setBlock (wr.drewN q2) m (.map es7 ck7)) (some ⟨rb, ro, none⟩) i.refs rc) := StrsAt.noMap (w := wr.drewN q2) ⟨HSj.out.ex, HSj.out.nil, HSj.out.le, HSj.out.cap, HSj.out.len, HSj.out.each⟩ (fun t ht => setBlock_other ht) hG6.edges.obj
      clear hG6 hG7 hj2
      go_wp2
      go_roundw
      case rel =>
        refine ⟨j + 1, _, es7, ck7, by go_num, by omega, HC7.out, HS7.out, HG7.out, fun y => ?_⟩
        rw [mem_putE, HE.out]
        constructor
        · rintro ((h | ⟨h1, t, ht, h2, h3⟩) | rfl)
          · exact .inl h
          · exact .inr ⟨h1, t, ht, by omega, h3⟩
          · exact .inr ⟨rfl, j, hjl, by omega, by rw [← HX.out]; exact hj2'⟩
        · rintro (h | ⟨h1, t, ht, h2, h3⟩)
          · exact .inl (.inl h)
          · by_cases e : t = j
            · subst e
              rw [← HX.out] at h3
              exact .inr (Prod.ext h1 (HGj.out.up.inj h3 hj2'))
            · exact .inl (.inr ⟨h1, t, ht, by omega, h3⟩)
      case measure => simp [intOf]; omega
    · have hlt' : ¬ (j : Int) < (n : Int) := by omega
      go_wp2
      refine bodyPost_end (results_none rfl _ _ _) rfl ?_
      refine ⟨⟨_, rfl⟩, HCj.out, k, Ej, ej, cj, hk', HGj.out, fun y => ?_⟩
      rw [HE.out]
      refine or_congr Iff.rfl (and_congr Iff.rfl ⟨?_, ?_⟩)
      · rintro ⟨t, ht, _, h3⟩
        exact ⟨_, List.getElem_mem ht, h3⟩
      · rintro ⟨r, hr, h3⟩
        obtain ⟨t, ht, rfl⟩ := List.getElem_of_mem hr
        exact ⟨t, ht, by have := HN.out; omega, h3⟩
end Go.Proofs.Ytkbhckjpmgkgjaa
