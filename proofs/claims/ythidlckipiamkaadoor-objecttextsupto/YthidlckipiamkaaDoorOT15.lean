/- My own work: the program's Read. -/
import Derived.Test.YthidlckipiamkaaDoorOT14
namespace Go.Proofs.YthidlckipiamkaaDoor
open Go.RowKit
open S2 (bl bl_len bl_inj splitB Tab NTab clone_ok)
attribute [local go_sem] Oper.semAt_some

abbrev infoP (p : ByteArray) : Array Value := #[.string p, .string ⟨#[]⟩, .string ⟨#[]⟩, .slice none 0 0]
theorem infoP_one (p : ByteArray) : (infoP p).all (·.oneCell') = true := by simp [Value.oneCell']
section
variable {F : Fence} {nF : Nat} {ops : Array Oper} {rest : List Oper} {o : Oper} {a : Act} {w : World} {Q : Exit → Act → World → Prop}
theorem storeNewI (hgd : o.guard = none) (x y : Operand) (ho : o.op = .store 24 x y) (W : World) (Z C : Array Value) (hw : w = W.alloc (.cells Z 24)) (hx : a.eval x = .pointer (some ⟨W.heap.size, 0, none⟩)) (hy : a.eval y = .agg C) (hZ : Z.size = 4) (hC : C.size = 4) (h1 : C.all (·.oneCell') = true) (hd : o.dst = none)
    (hK : wpListIn F nF Tryd.prog ops Q rest a (W.alloc (.cells C 24))) : wpListIn F nF Tryd.prog ops Q (o :: rest) a w := by
  subst hw
  refine storeInI hgd x y ho W.heap.size hx 24 Z C hy (heap_alloc_new W _) hZ hC h1 hd ?_
  rw [World.setRow_alloc_new]
  exact hK
end
/-- The map as it is made. -/
def says1 (g : Nat) : Array MapEntry := #[⟨.string ⟨#[104, 97, 115, 104]⟩, .func (.func 14) #[] #[.pointer (some ⟨g, 0, none⟩)], 0⟩]
def says2 (g : Nat) : Array MapEntry := #[⟨.string ⟨#[104, 97, 115, 104]⟩, .func (.func 14) #[] #[.pointer (some ⟨g, 0, none⟩)], 0⟩, ⟨.string ⟨#[100, 101, 114, 105, 118, 101, 114]⟩, .func (.func 15) #[] #[.pointer (some ⟨g, 0, none⟩)], 1⟩]
theorem map_step (w2 : World) (es : Array MapEntry) (c : Nat) (s : ByteArray) (val : Value) (hf : Instr.findNow .string (.string s) es.toList 0 = some none) :
    (Instr.mapUpdate 42 (.map (some w2.heap.size)) (.string s) val).run Tryd.prog (w2.alloc (.map es c)) = .ok () (w2.alloc (.map (es.push { key := .string s, val := val, born := c }) (c + 1))) := by
  rw [run_mapUpdate_new 42 9 _ w2.heap.size c es s val Tryd.underlying42 Tryd.underlying9 (heap_alloc_new w2 _) hf]
  have e : (w2.heap.push (.map es c)).setIfInBounds w2.heap.size (.map (es.push { key := .string s, val := val, born := c }) (c + 1)) = w2.heap.push (.map (es.push { key := .string s, val := val, born := c }) (c + 1)) := by
    apply Array.ext
    · rw [Array.size_setIfInBounds, Array.size_push, Array.size_push]
    · intro i h1 h2
      rw [Array.getElem_setIfInBounds (by rw [Array.size_setIfInBounds] at h1; exact h1)]
      split
      · rename_i hi
        subst hi
        rw [Array.getElem_push_eq]
      · rename_i hi
        rw [Array.size_push] at h2
        rw [Array.getElem_push_lt (by omega), Array.getElem_push_lt (by omega)]
  show Result.ok () { w2 with heap := (w2.heap.push (.map es c)).setIfInBounds w2.heap.size (.map (es.push { key := .string s, val := val, born := c }) (c + 1)) } = _
  rw [e]
  rfl
theorem map_step1 (w2 : World) (g : Nat) : (Instr.mapUpdate 42 (.map (some w2.heap.size)) (.string ⟨#[104, 97, 115, 104]⟩) (.func (.func 14) #[] #[.pointer (some ⟨g, 0, none⟩)])).run Tryd.prog (w2.alloc (.map #[] 0)) = .ok () (w2.alloc (.map (says1 g) 1)) := map_step w2 #[] 0 _ _ rfl
theorem map_step2 (w2 : World) (g : Nat) : (Instr.mapUpdate 42 (.map (some w2.heap.size)) (.string ⟨#[100, 101, 114, 105, 118, 101, 114]⟩) (.func (.func 15) #[] #[.pointer (some ⟨g, 0, none⟩)])).run Tryd.prog (w2.alloc (.map (says1 g) 1)) = .ok () (w2.alloc (.map (says2 g) 2)) := map_step w2 (says1 g) 1 _ _ rfl
theorem map_step3 (w2 : World) (g : Nat) : (Instr.mapUpdate 42 (.map (some w2.heap.size)) (.string ⟨#[114, 101, 102]⟩) (.func (.func 16) #[] #[.pointer (some ⟨g, 0, none⟩)])).run Tryd.prog (w2.alloc (.map (says2 g) 2)) = .ok () (w2.alloc (.map (says g) 3)) := map_step w2 (says2 g) 2 _ _ rfl
/-- What the loop leaves as it was: all but the info and the text that is left. -/
structure Kept (wb : World) (g Bs : Nat) (W : World) : Prop where
  os : W.os = wb.os
  tape : W.tape = wb.tape
  output : W.output = wb.output
  size : wb.heap.size ≤ W.heap.size
  keep : ∀ k, k < wb.heap.size → k ≠ g → k ≠ Bs → W.heap[k]? = wb.heap[k]?
theorem Kept.say {wb : World} {g Bs : Nat} {W W' : World} (h : Kept wb g Bs W) (k : Say wb.heap.size g W W') : Kept wb g Bs W' := ⟨k.os.trans h.os, k.tape.trans h.tape, k.output.trans h.output, Nat.le_trans h.size k.size, fun i hi hg hB => (k.blk i hi hg).trans (h.keep i hi hg hB)⟩
theorem Kept.ch {wb : World} {g Bs : Nat} {W W' : World} (h : Kept wb g Bs W) (k : ChL Bs W W') : Kept wb g Bs W' := by
  obtain ⟨v, rfl | rfl⟩ := k
  · exact ⟨h.os, h.tape, h.output, by simpa using h.size, fun i hi hg hB => (heap_setCell_other W ⟨Bs, 0, none⟩ i _ hB).trans (h.keep i hi hg hB)⟩
  · exact ⟨h.os, h.tape, h.output, by simpa using h.size, fun i hi hg hB => (heap_setCell_other W.drew ⟨Bs, 0, none⟩ i _ hB).trans (h.keep i hi hg hB)⟩
theorem Kept.grown {wb : World} {g Bs : Nat} {W W' : World} {row : Option Nat} (h : Kept wb g Bs W) (hg : W.grownBy W' row) (hr : ∀ r, row = some r → wb.heap.size ≤ r ∧ ∃ o : Obj, W.heap[r]? = some o ∧ o.isCells = false) : Kept wb g Bs W' :=
  ⟨hg.os.trans h.os, hg.tape.trans h.tape, hg.output.trans h.output, Nat.le_trans h.size hg.size, fun i hi h1 h2 => (hg.block i (by have := h.size; omega) (fun e => by have := (hr i e.symm).1; omega)).trans (h.keep i hi h1 h2)⟩
theorem Kept.below {wb w : World} {g Bs : Nat} {W : World} (h : Kept wb g Bs W) (hb : Below w.heap.size w wb) (hg : w.heap.size ≤ g) (hB : w.heap.size ≤ Bs) : Below w.heap.size w W :=
  ⟨h.os.trans hb.os, h.tape.trans hb.tape, h.output.trans hb.output, Nat.le_trans hb.size h.size, fun k hk => (h.keep k (by have := hb.size; omega) (by omega) (by omega)).trans (hb.block k hk)⟩
/-- What holds in the loop. -/
def LI (wb : World) (g Bs : Nat) (p : ByteArray) (pre : List ByteArray) (W : World) : Prop :=
  Kept wb g Bs W ∧ ∃ st v, pdL (some pst0) pre = some st ∧ st.le 1048576 ∧ st.rs.length ≤ pre.length ∧ DB wb.heap.size g p st.h st.d st.rs v W
theorem LI.ch {wb : World} {g Bs : Nat} {p : ByteArray} (hB : Bs < wb.heap.size) (hg : g ≠ Bs) {pre : List ByteArray} {A B : World} (hc : ChL Bs A B) (h : LI wb g Bs p pre A) : LI wb g Bs p pre B := by
  obtain ⟨hk, st, v, h1, h2, h3, h4⟩ := h
  refine ⟨hk.ch hc, st, v, h1, h2, h3, ?_⟩
  obtain ⟨x, rfl | rfl⟩ := hc
  · exact h4.other hB hg _
  · exact h4.drew.other hB hg _
theorem LI.own {wb : World} {g Bs : Nat} {p : ByteArray} : OwnFrom wb.heap.size (LI wb g Bs p) := by
  rintro pre A B row ⟨hk, st, v, h1, h2, h3, h4⟩ hg hr
  exact ⟨hk.grown hg hr, st, v, h1, h2, h3, h4.grown hg hr⟩
/-- What holds where a word was unknown. -/
def LX (w wb : World) (pre : List ByteArray) (W : World) : Prop :=
  pdL (some pst0) pre = none ∧ Below w.heap.size w W ∧ wb.heap.size ≤ W.heap.size ∧ Row W w.heap.size info0 24 ∧ Row W (w.heap.size + 1) #[.int .i64 10] 25
theorem row_far {W W' : World} {row : Option Nat} {b k : Nat} {C : Array Value} {t : TypeId} (hg : W.grownBy W' row) (hr : ∀ r, row = some r → b ≤ r ∧ ∃ o : Obj, W.heap[r]? = some o ∧ o.isCells = false) (h : Row W k C t) (hk : k < b) : Row W' k C t :=
  (hg.block k h.lt (fun e => by have := (hr k e.symm).1; omega)).trans h
theorem LX.own {w wb : World} (hb : w.heap.size + 1 < wb.heap.size) : OwnFrom wb.heap.size (LX w wb) := by
  rintro pre A B row ⟨h1, h2, h3, h4, h5⟩ hg hr
  exact ⟨h1, h2.trans ⟨hg.os, hg.tape, hg.output, hg.size, fun k hk => hg.block k (by have := h2.size; omega) (fun e => by have := (hr k e.symm).1; omega)⟩, Nat.le_trans h3 hg.size, row_far hg hr h4 (by omega), row_far hg hr h5 (by omega)⟩
theorem LX.ch {w wb : World} {Bs : Nat} (hB : w.heap.size + 1 < Bs) {pre : List ByteArray} {A B : World} (hc : ChL Bs A B) (h : LX w wb pre A) : LX w wb pre B := by
  obtain ⟨h1, h2, h3, h4, h5⟩ := h
  obtain ⟨x, rfl | rfl⟩ := hc
  · exact ⟨h1, h2.trans ⟨rfl, rfl, rfl, by simp, fun k hk => heap_setCell_other A ⟨Bs, 0, none⟩ k _ (by show k ≠ Bs; omega)⟩, by simpa using h3, h4.setCell_other (by omega) _, h5.setCell_other (by omega) _⟩
  · exact ⟨h1, h2.trans ⟨rfl, rfl, rfl, by simp, fun k hk => heap_setCell_other A.drew ⟨Bs, 0, none⟩ k _ (by show k ≠ Bs; omega)⟩, by simpa using h3, Row.setCell_other (w := A.drew) h4 (by omega) _, Row.setCell_other (w := A.drew) h5 (by omega) _⟩
theorem ChL.oth {Bs : Nat} {A B : World} (h : ChL Bs A B) (k : Nat) (o : Obj) (hk : A.heap[k]? = some o) (ho : o.isCells = false) : B.heap[k]? = some o := by
  have key : ∀ (X : World) (v : Value), X.heap[k]? = some o → (X.setCell ⟨Bs, 0, none⟩ v).heap[k]? = some o := fun X v hx => by
    unfold World.setCell
    simp only [Array.getElem?_modify, hx]
    split
    · cases o with
      | cells c e f => cases ho
      | _ => rfl
    · rfl
  obtain ⟨v, rfl | rfl⟩ := h
  · exact key A _ hk
  · exact key A.drew _ hk
theorem KpL.alloc {Bs : Nat} (W : World) (o : Obj) : KpL Bs W (W.alloc o) := fun _ h => h.alloc o
theorem KpL.put {Bs : Nat} (W : World) (l : Nat) (o o' : Obj) (h : W.heap[l]? = some o) (hc : o.isCells = false) : KpL Bs W (W.putObj l o') := fun s hs => by
  have hs' : W.heap[Bs]? = some (.cells #[.string s] 9 (0, 0)) := hs
  have hne : l ≠ Bs := fun e => by
    subst e
    rw [hs'] at h
    cases h
    cases hc
  show (W.putObj l o').heap[Bs]? = _
  rw [World.putObj_heap_other (by omega)]
  exact hs'
theorem loadErrno (w : World) (k : Nat) (e : Int) (hk : Row w k #[.int .i64 e] 25) : (loadVar 25 ⟨k, 0, none⟩).run Tryd.prog w = .ok (.int .i64 e) w := by
  have hc : w.cell? ⟨k, 0, none⟩ = some (.int .i64 e) := (hk.cell 0).trans rfl
  have hu := Tryd.underlying25
  go_simp
theorem results_read (tmps : Array Value) (w : World) (g k : Nat) (C : Array Value) (e : Int) (hp : tmps.getD 4 undef = .pointer (some ⟨g, 0, none⟩)) (hg : Row w g C 24) (hC : C.size = 4) (hq : tmps.getD 5 undef = .pointer (some ⟨k, 0, none⟩)) (hk : Row w k #[.int .i64 e] 25) :
    (results Tryd.f6 tmps).run Tryd.prog w = .ok (.tuple #[.agg C, .int .i64 e]) w := by
  have hp' : tmps[4]?.getD undef = .pointer (some ⟨g, 0, none⟩) := by simpa using hp
  have hq' : tmps[5]?.getD undef = .pointer (some ⟨k, 0, none⟩) := by simpa using hq
  simp [results, hp', hq', asAddr, run_loadVar_row w g 24 24 C (0, 0) _ hg Tryd.underlying24 rfl (by rw [infoI, hC]), loadErrno w k e hk, Result.andThen]
theorem Row.put {W : World} {D k : Nat} {C : Array Value} {t : TypeId} {o o' : Obj} (h : Row W k C t) (hD : W.heap[D]? = some o) (ho : o.isCells = false) : Row (W.putObj D o') k C t := by
  have h' : W.heap[k]? = some (.cells C t (0, 0)) := h
  have hne : D ≠ k := fun e => by
    subst e
    rw [h'] at hD
    cases hD
    cases ho
  show (W.putObj D o').heap[k]? = _
  rw [World.putObj_heap_other (by omega)]
  exact h'
theorem below_put {w W : World} {D : Nat} {o' : Obj} (h : Below w.heap.size w W) (hD : w.heap.size ≤ D) : Below w.heap.size w (W.putObj D o') := h.trans ⟨rfl, rfl, rfl, by simp [World.putObj], fun k hk => World.putObj_heap_other (by omega)⟩
set_option maxRecDepth 100000 in
set_option maxHeartbeats 8000000 in
theorem read_ok (w0 : World) (D : ByteArray → Int) (hD : DP w0 D) (p s : ByteArray) (w : World) (hw : Below w0.heap.size w0 w) (hp : p.size ≤ big) (hs : s.size ≤ 1048576) (hT : Tab w) (hN : NTab w) : Calls Tryd.prog 6 #[.string p, .string s] w (ReadPost D (rdI p s) s w) := by
  refine (callsIn_wide (n := 5)).1 ?_
  obtain ⟨wA, hwA⟩ : ∃ x, x = (w.alloc (.cells info0 24)).alloc (.cells #[.int .i64 0] 25) := ⟨_, rfl⟩
  have hbA : Below w.heap.size w wA := by rw [hwA]; exact ((Below.refl _ _).alloc (Nat.le_refl _) _).alloc (by simp) _
  have hA4 : Row wA w.heap.size info0 24 := by rw [hwA]; exact (Row.new w info0 24).alloc _
  have hA5 : Row wA (w.heap.size + 1) #[.int .i64 0] 25 := by
    rw [hwA]
    have h := Row.new (w.alloc (.cells info0 24)) #[.int .i64 0] 25
    simpa using h
  have hwA' := hwA.symm
  have hcl := clone_ok p wA (by unfold big at hp; omega)
  have HA : Hid (Below w.heap.size w wA ∧ Row wA w.heap.size info0 24 ∧ Row wA (w.heap.size + 1) #[.int .i64 0] 25) := ⟨hbA, hA4, hA5⟩
  have HD : Hid (DP w0 D) := hD
  have HW : Hid (Below w0.heap.size w0 w ∧ Tab w ∧ NTab w) := ⟨hw, hT, hN⟩
  clear hwA hbA hA4 hA5 hD hw hT hN
  refine callsIn_of_wp_marks Tryd.func6 rfl trivial ?_ rfl
  simp only [Tryd.ntmps6, List.size_toArray, List.length_cons, List.length_nil, Nat.reduceAdd, Nat.reduceSub, Array.replicate_succ, Array.replicate_zero, List.push_toArray, List.append_toArray, List.nil_append, List.cons_append]
  gi_wp2_with (first
    | (refine ⟨trivial, ?_⟩; gi_at_call 13; refine (callsIn_wide.2 hcl).mono ?_; rintro e w1 ⟨rfl, hb1⟩
       obtain ⟨w2, hw2⟩ : ∃ x, x = w1.alloc (.cells (infoP p) 24) := ⟨_, rfl⟩
       have hw2' := hw2.symm
       have e0 := run_makeMap_plain (P := Tryd.prog) w2 42
       have e1 := map_step1 w2 w1.heap.size
       have e2 := map_step2 w2 w1.heap.size
       have e3 := map_step3 w2 w1.heap.size
       have hl := lines_ok s ((w2.alloc (.map (says w1.heap.size) 3)).alloc (.cells #[.map (some w2.heap.size)] 42))
       have HB1 : Hid (Below wA.heap.size wA w1) := hb1
       have HW2 : Hid (w2 = w1.alloc (.cells (infoP p) 24)) := hw2
       clear hb1 hw2
       clear hcl)
    | (refine storeNewI rfl _ _ rfl w1 info0 (infoP p) rfl rfl rfl rfl rfl (infoP_one p) rfl ?_; rw [hw2'])
    | (refine ⟨trivial, ?_⟩; gi_at_call 17; refine (callsIn_wide.2 hl).mono ?_; rintro e w3 ⟨rfl, hw3⟩; clear hl e0 e1 e2 e3))
  have hsz2 : w2.heap.size = w1.heap.size + 1 := by rw [HW2.out]; simp
  have hsz3 : w3.heap.size = w2.heap.size + 3 := by rw [hw3]; simp
  have hsA : w.heap.size + 2 ≤ w1.heap.size := by have := HB1.out.size; have := Row.lt HA.out.2.2; omega
  have hb23 : Below w2.heap.size w2 w3 := by rw [hw3]; exact (((Below.refl _ _).alloc (Nat.le_refl _) _).alloc (by simp) _).alloc (by simp; omega) _
  have hb12 : Below w1.heap.size w1 w2 := by rw [HW2.out]; exact (Below.refl _ _).alloc (Nat.le_refl _) _
  have hb13 : Below w1.heap.size w1 w3 := hb12.trans (hb23.mono (by omega))
  have hbA3 : Below wA.heap.size wA w3 := HB1.out.trans (hb13.mono HB1.out.size)
  have hb03 : Below w.heap.size w w3 := HA.out.1.trans (hbA3.mono HA.out.1.size)
  have hR4 : Row w3 w.heap.size info0 24 := Row.below HA.out.2.1 hbA3 (Row.lt HA.out.2.1)
  have hR5 : Row w3 (w.heap.size + 1) #[.int .i64 0] 25 := Row.below HA.out.2.2 hbA3 (Row.lt HA.out.2.2)
  have hR6 : Row w3 w1.heap.size (infoP p) 24 := by
    have h : Row w2 w1.heap.size (infoP p) 24 := by rw [HW2.out]; exact Row.new w1 _ _
    exact h.below hb23 (by omega)
  have hM : w3.heap[w2.heap.size]? = some (.map (says w1.heap.size) 3) := by
    rw [hw3]
    exact (Below.heap_alloc _ _ _ (by simp; omega)).trans ((Below.heap_alloc _ _ _ (by simp)).trans (World.alloc_heap_new w2 _))
  have hR7 : Row w3 (w2.heap.size + 1) #[.map (some w2.heap.size)] 42 := by
    rw [hw3]
    have h := Row.new (w2.alloc (.map (says w1.heap.size) 3)) #[.map (some w2.heap.size)] 42
    rw [World.size_alloc] at h
    exact h.alloc _
  have hBs : Row w3 (w2.heap.size + 1 + 1) #[.string s] 9 := by
    rw [hw3]
    have h := Row.new ((w2.alloc (.map (says w1.heap.size) 3)).alloc (.cells #[.map (some w2.heap.size)] 42)) #[.string s] 9
    simpa using h
  rw [← hw3]
  have HF : Hid (Below w.heap.size w w3 ∧ Row w3 w.heap.size info0 24 ∧ Row w3 (w.heap.size + 1) #[.int .i64 0] 25 ∧ w3.heap[w2.heap.size]? = some (.map (says w1.heap.size) 3) ∧ Row w3 (w2.heap.size + 1) #[.map (some w2.heap.size)] 42) := ⟨hb03, hR4, hR5, hM, hR7⟩
  have hLI : LI w3 w1.heap.size (w2.heap.size + 1 + 1) p [] w3 := ⟨⟨rfl, rfl, rfl, Nat.le_refl _, fun _ _ _ _ => rfl⟩, pst0, .slice none 0 0, rfl, ⟨Nat.zero_le _, Nat.zero_le _, fun r hr => by cases hr⟩, Nat.le_refl _, ⟨hR6, World.ownsRow_nil _ _ _ _, by omega, Nat.le_refl _⟩⟩
  have hlt1 : w1.heap.size < w2.heap.size := by omega
  have hlt2 : w2.heap.size + 2 < w3.heap.size := by omega
  clear hsz2 hsz3
  have hst := lines_stops 4 (by omega) (w2.heap.size + 1 + 1) s hs w3 hBs
  clear hw3 hb23 hb12 hb13 hbA3 hb03 hR4 hR5 hR6 hM hR7 hBs HA HB1 HW2 hw2' hwA'
  refine wpIn_rangeFunc_state rfl (by omega) (gf := 28) (lb := #[.pointer (some ⟨w2.heap.size + 1 + 1, 0, none⟩)]) rfl trivial (enters_of Tryd.func28 (by kernel_rfl) rfl)
    hst KpL.trans (fun W o _ => KpL.alloc W o) (fun W l o o' _ h1 h2 => KpL.put W l o o' h1 h2) (fun A B k o hc h1 h2 => hc.oth k o h1 h2) (fun _ => rfl)
    (LI w3 w1.heap.size (w2.heap.size + 1 + 1) p) (fun c pre W => c = Code.ret ∧ LX w w3 pre W) LI.own (fun c pre A B row h hg hr => ⟨h.1, LX.own (by omega) pre A B row h.2 hg hr⟩) (fun pre A B hc h => h.ch (by omega) (by omega) hc) (fun c pre A B hc h => ⟨h.1, h.2.ch (by omega) hc⟩) hLI
    (fun x => { tmps := #[.string p, .string s, undef, undef, .pointer (some ⟨w.heap.size, 0, none⟩), .pointer (some ⟨w.heap.size + 1, 0, none⟩), .pointer (some ⟨w1.heap.size, 0, none⟩), .pointer (some ⟨w2.heap.size + 1, 0, none⟩), .string x, undef, undef, undef, undef, undef, undef, undef, .string p, .string p, .agg #[.string p, .string ⟨#[]⟩, .string ⟨#[]⟩, .slice none 0 0], .map (some w2.heap.size), .func (.func 14) #[] #[.pointer (some ⟨w1.heap.size, 0, none⟩)], .func (.func 15) #[] #[.pointer (some ⟨w1.heap.size, 0, none⟩)], .func (.func 16) #[] #[.pointer (some ⟨w1.heap.size, 0, none⟩)], .map (some w2.heap.size), .string s, .func (.func 28) #[] #[.pointer (some ⟨w2.heap.size + 1 + 1, 0, none⟩)], .string x, undef, undef, undef, undef, undef, undef, undef, undef, undef, undef, undef, undef, undef, undef, undef, undef, undef, undef, undef, undef, undef, undef, undef, undef, undef, undef, undef, undef, undef, undef, undef, undef, undef, undef], defers := [] }) ?assign ?body ?done ?stop
  case assign =>
    intro l x W K hK
    gi_wp2
    exact hK
  case body =>
    rintro l pre x W hx ⟨hK, st, v, h1, h2, h3, h4⟩ hlen
    have hm0 : W.heap[w2.heap.size]? = some (.map (says w1.heap.size) 3) := (hK.keep _ (by omega) (by omega) (by omega)).trans HF.out.2.2.2.1
    have hr7 : Row W (w2.heap.size + 1) #[.map (some w2.heap.size)] 42 := (hK.keep _ (by omega) (by omega) (by omega)).trans HF.out.2.2.2.2
    have hr4 : Row W w.heap.size info0 24 := (hK.keep _ (by omega) (by omega) (by omega)).trans HF.out.2.1
    have hr5 : Row W (w.heap.size + 1) #[.int .i64 0] 25 := (hK.keep _ (by omega) (by omega) (by omega)).trans HF.out.2.2.1
    have hBw : Below w.heap.size w W := hK.below HF.out.1 (by omega) (by omega)
    have htr := trim_ok x W hx
    have hcu := cut_ok (trimE x) W (Nat.le_trans (trim_le x) hx)
    have hsd0 : (saidL x).size ≤ 1048576 := Nat.le_trans (said_le x) hx
    obtain ⟨wd, hwd⟩ : ∃ y, y = wordL x := ⟨_, rfl⟩
    obtain ⟨sd, hsd⟩ : ∃ y, y = saidL x := ⟨_, rfl⟩
    have hfi := says_find w1.heap.size wd
    have HP1 : Hid (pdL (some pst0) (pre ++ [x]) = stepL st x) := by
      show _ = _
      rw [pdL_app, h1]
      rfl
    have hcu' : Calls Tryd.prog 18 #[.string (trimE x), .string ⟨#[32]⟩] W fun e w' => ∃ b : Bool, e = .returned (.tuple #[.string wd, .string sd, .bool b]) ∧ Below W.heap.size W w' := by
      rw [hwd, hsd]
      exact hcu
    rw [← hsd] at hsd0
    obtain ⟨tx, htx⟩ : ∃ y, y = trimE x := ⟨_, rfl⟩
    rw [← htx] at htr hcu'
    have HX : Hid (wd = wordL x ∧ sd = saidL x) := ⟨hwd, hsd⟩
    have HLe : Hid (st.le 1048576 ∧ st.rs.length ≤ pre.length) := ⟨h2, h3⟩
    have hrl : st.rs.length ≤ 1048576 := by omega
    have HI : Hid (Kept w3 w1.heap.size (w2.heap.size + 1 + 1) W ∧ DB w3.heap.size w1.heap.size p st.h st.d st.rs v W) := ⟨hK, h4⟩
    clear hcu hwd hsd htx h1 h2 h3 hK h4
    by_cases c1 : bl wd = WH
    · rw [if_pos c1] at hfi
      have HN : Hid (stepL st x = some { st with h := sd }) := by
        show _ = _
        unfold stepL
        rw [← HX.out.1, ← HX.out.2, if_pos c1]
      clear c1
      have hlk : ∀ wx, wx.heap[w2.heap.size]? = some (.map (says w1.heap.size) 3) → Sem.run Tryd.prog (Instr.lookup 42 (.map (some w2.heap.size)) (.string wd) true) wx = .ok (.tuple #[.func (.func 14) #[] #[.pointer (some ⟨w1.heap.size, 0, none⟩)], .bool true]) wx := fun wx h => run_lookup_some 42 9 _ w2.heap.size 3 0 (says w1.heap.size) wd _ Tryd.underlying42 Tryd.underlying9 h hfi
      have HLk : Hid _ := hlk
      clear hlk hfi hr4 hr5
      gi_wp2_with (first
        | (refine ⟨trivial, ?_⟩; gi_at_call 19; refine (CallsIn.inRound l (callsIn_wide.2 htr)).mono ?_; rintro e w5 ⟨rfl, rfl⟩; clear htr)
        | (refine ⟨trivial, ?_⟩; gi_at_call 18; refine (CallsIn.inRound l (callsIn_wide.2 hcu')).mono ?_; rintro e w6 ⟨bb, rfl, hb6⟩
           have hc7 : w6.cell? ⟨w2.heap.size + 1, 0, none⟩ = some (.map (some w2.heap.size)) := (Row.cell (Row.below hr7 hb6 (Row.lt hr7)) 0).trans rfl
           have hm6 : w6.heap[w2.heap.size]? = some (.map (says w1.heap.size) 3) := (hb6.block _ (lt_of_some hm0)).trans hm0
           have hlk := HLk.out w6 hm6
           have hcl := clone_ok sd w6 (by omega)
           clear hcu' hm0 hr7)
        | (refine ⟨trivial, ?_⟩; gi_at_call 13; refine (CallsIn.inRound l (callsIn_wide.2 hcl)).mono ?_; rintro e w7 ⟨rfl, hb7⟩
           have hB7 := hb6.trans (hb7.mono hb6.size)
           have hsay := sayB_hash w3.heap.size w1.heap.size p st.h st.d sd st.rs v w7 (HI.out.2.of_below hB7)
           clear hcl)
        | (refine ⟨trivial, ?_⟩; gi_at_call 14; refine (CallsIn.inRound l (callsIn_wide.2 hsay)).mono ?_; rintro e w8 ⟨⟨rr, rfl⟩, hDB8, hS8⟩; clear hsay))
      have hS : Say w3.heap.size w1.heap.size w5 w8 := (Say.of_below hB7 HI.out.1.size).trans hS8
      obtain ⟨v8, hv8⟩ : ∃ y, y = v := ⟨_, rfl⟩
      rw [← hv8] at hDB8
      exact ⟨⟨hS.size, fun k o _ hk ho => hS.oth k o hk ho⟩, fun r hr => (hS.blk _ (by omega) (by omega)).trans hr, HI.out.1.say hS, _, v8, HP1.out.trans HN.out, ⟨hsd0, HLe.out.1.2⟩, by have := HLe.out.2; simp; omega, hDB8⟩
    by_cases c2 : bl wd = WD
    · rw [if_neg c1, if_pos c2] at hfi
      have HN : Hid (stepL st x = some { st with d := sd }) := by
        show _ = _
        unfold stepL
        rw [← HX.out.1, ← HX.out.2, if_neg c1, if_pos c2]
      clear c1 c2
      have hlk : ∀ wx, wx.heap[w2.heap.size]? = some (.map (says w1.heap.size) 3) → Sem.run Tryd.prog (Instr.lookup 42 (.map (some w2.heap.size)) (.string wd) true) wx = .ok (.tuple #[.func (.func 15) #[] #[.pointer (some ⟨w1.heap.size, 0, none⟩)], .bool true]) wx := fun wx h => run_lookup_some 42 9 _ w2.heap.size 3 1 (says w1.heap.size) wd _ Tryd.underlying42 Tryd.underlying9 h hfi
      have HLk : Hid _ := hlk
      clear hlk hfi hr4 hr5
      gi_wp2_with (first
        | (refine ⟨trivial, ?_⟩; gi_at_call 19; refine (CallsIn.inRound l (callsIn_wide.2 htr)).mono ?_; rintro e w5 ⟨rfl, rfl⟩; clear htr)
        | (refine ⟨trivial, ?_⟩; gi_at_call 18; refine (CallsIn.inRound l (callsIn_wide.2 hcu')).mono ?_; rintro e w6 ⟨bb, rfl, hb6⟩
           have hc7 : w6.cell? ⟨w2.heap.size + 1, 0, none⟩ = some (.map (some w2.heap.size)) := (Row.cell (Row.below hr7 hb6 (Row.lt hr7)) 0).trans rfl
           have hm6 : w6.heap[w2.heap.size]? = some (.map (says w1.heap.size) 3) := (hb6.block _ (lt_of_some hm0)).trans hm0
           have hlk := HLk.out w6 hm6
           have hcl := clone_ok sd w6 (by omega)
           clear hcu' hm0 hr7)
        | (refine ⟨trivial, ?_⟩; gi_at_call 13; refine (CallsIn.inRound l (callsIn_wide.2 hcl)).mono ?_; rintro e w7 ⟨rfl, hb7⟩
           have hB7 := hb6.trans (hb7.mono hb6.size)
           have hsay := sayB_der w3.heap.size w1.heap.size p st.h st.d sd st.rs v w7 (HI.out.2.of_below hB7)
           clear hcl)
        | (refine ⟨trivial, ?_⟩; gi_at_call 15; refine (CallsIn.inRound l (callsIn_wide.2 hsay)).mono ?_; rintro e w8 ⟨⟨rr, rfl⟩, hDB8, hS8⟩; clear hsay))
      have hS : Say w3.heap.size w1.heap.size w5 w8 := (Say.of_below hB7 HI.out.1.size).trans hS8
      obtain ⟨v8, hv8⟩ : ∃ y, y = v := ⟨_, rfl⟩
      rw [← hv8] at hDB8
      exact ⟨⟨hS.size, fun k o _ hk ho => hS.oth k o hk ho⟩, fun r hr => (hS.blk _ (by omega) (by omega)).trans hr, HI.out.1.say hS, _, v8, HP1.out.trans HN.out, ⟨HLe.out.1.1, hsd0, HLe.out.1.2.2⟩, by have := HLe.out.2; simp; omega, hDB8⟩
    by_cases c3 : bl wd = WR
    · rw [if_neg c1, if_neg c2, if_pos c3] at hfi
      have HN : Hid (stepL st x = some { st with rs := st.rs ++ [sd] }) := by
        show _ = _
        unfold stepL
        rw [← HX.out.1, ← HX.out.2, if_neg c1, if_neg c2, if_pos c3]
      clear c1 c2 c3
      have hlk : ∀ wx, wx.heap[w2.heap.size]? = some (.map (says w1.heap.size) 3) → Sem.run Tryd.prog (Instr.lookup 42 (.map (some w2.heap.size)) (.string wd) true) wx = .ok (.tuple #[.func (.func 16) #[] #[.pointer (some ⟨w1.heap.size, 0, none⟩)], .bool true]) wx := fun wx h => run_lookup_some 42 9 _ w2.heap.size 3 2 (says w1.heap.size) wd _ Tryd.underlying42 Tryd.underlying9 h hfi
      have HLk : Hid _ := hlk
      clear hlk hfi hr4 hr5
      gi_wp2_with (first
        | (refine ⟨trivial, ?_⟩; gi_at_call 19; refine (CallsIn.inRound l (callsIn_wide.2 htr)).mono ?_; rintro e w5 ⟨rfl, rfl⟩; clear htr)
        | (refine ⟨trivial, ?_⟩; gi_at_call 18; refine (CallsIn.inRound l (callsIn_wide.2 hcu')).mono ?_; rintro e w6 ⟨bb, rfl, hb6⟩
           have hc7 : w6.cell? ⟨w2.heap.size + 1, 0, none⟩ = some (.map (some w2.heap.size)) := (Row.cell (Row.below hr7 hb6 (Row.lt hr7)) 0).trans rfl
           have hm6 : w6.heap[w2.heap.size]? = some (.map (says w1.heap.size) 3) := (hb6.block _ (lt_of_some hm0)).trans hm0
           have hlk := HLk.out w6 hm6
           have hcl := clone_ok sd w6 (by omega)
           clear hcu' hm0 hr7)
        | (refine ⟨trivial, ?_⟩; gi_at_call 13; refine (CallsIn.inRound l (callsIn_wide.2 hcl)).mono ?_; rintro e w7 ⟨rfl, hb7⟩
           have hB7 := hb6.trans (hb7.mono hb6.size)
           have hsay := sayB_ref w3.heap.size w1.heap.size p st.h st.d sd st.rs v w7 (HI.out.2.of_below hB7) hrl
           clear hcl)
        | (refine ⟨trivial, ?_⟩; gi_at_call 16; refine (CallsIn.inRound l (callsIn_wide.2 hsay)).mono ?_; rintro e w8 ⟨⟨rr, rfl⟩, hDB8, hS8⟩; clear hsay))
      have hS : Say w3.heap.size w1.heap.size w5 w8 := (Say.of_below hB7 HI.out.1.size).trans hS8
      obtain ⟨v8, hDB8⟩ := hDB8
      exact ⟨⟨hS.size, fun k o _ hk ho => hS.oth k o hk ho⟩, fun r hr => (hS.blk _ (by omega) (by omega)).trans hr, HI.out.1.say hS, _, v8, HP1.out.trans HN.out, ⟨HLe.out.1.1, HLe.out.1.2.1, fun r hr => by
        rcases List.mem_append.1 hr with hr | hr
        · exact HLe.out.1.2.2 r hr
        · rw [List.mem_singleton] at hr; subst hr; exact hsd0⟩, by have := HLe.out.2; simp; omega, hDB8⟩
    rw [if_neg c1, if_neg c2, if_neg c3] at hfi
    have HN : Hid (stepL st x = none) := by
      show _ = _
      unfold stepL
      rw [← HX.out.1, if_neg c1, if_neg c2, if_neg c3]
    clear c1 c2 c3
    have hlk : ∀ wx, wx.heap[w2.heap.size]? = some (.map (says w1.heap.size) 3) → Sem.run Tryd.prog (Instr.lookup 42 (.map (some w2.heap.size)) (.string wd) true) wx = .ok (.tuple #[.nilFunc, .bool false]) wx := fun wx h => run_lookup_none 42 9 _ w2.heap.size 3 (says w1.heap.size) wd .nilFunc Tryd.underlying42 Tryd.underlying9 (fun _ => by kernel_rfl) h hfi
    have HLk : Hid _ := hlk
    clear hlk hfi
    gi_wp2_with (first
      | (refine ⟨trivial, ?_⟩; gi_at_call 19; refine (CallsIn.inRound l (callsIn_wide.2 htr)).mono ?_; rintro e w5 ⟨rfl, rfl⟩; clear htr)
      | (refine ⟨trivial, ?_⟩; gi_at_call 18; refine (CallsIn.inRound l (callsIn_wide.2 hcu')).mono ?_; rintro e w6 ⟨bb, rfl, hb6⟩
         have hc7 : w6.cell? ⟨w2.heap.size + 1, 0, none⟩ = some (.map (some w2.heap.size)) := (Row.cell (Row.below hr7 hb6 (Row.lt hr7)) 0).trans rfl
         have hm6 : w6.heap[w2.heap.size]? = some (.map (says w1.heap.size) 3) := (hb6.block _ (lt_of_some hm0)).trans hm0
         have hlk := HLk.out w6 hm6
         have hr46 : Row w6 w.heap.size info0 24 := Row.below hr4 hb6 (Row.lt hr4)
         have hr56 : Row w6 (w.heap.size + 1) #[.int .i64 0] 25 := Row.below hr5 hb6 (Row.lt hr5)
         have hr57 : Row (w6.setRow w.heap.size info0) (w.heap.size + 1) #[.int .i64 0] 25 := hr56.other (by omega)
         have hc5 : (w6.setRow w.heap.size info0).cell? ⟨w.heap.size + 1, 0, none⟩ = some (.int .i64 0) := (Row.cell hr57 0).trans rfl
         have hf5 := Row.frozen hr57 0
         clear hcu' hm0 hr7 hr4 hr5)
      | (refine storeInI rfl _ _ rfl w.heap.size rfl 24 info0 info0 rfl hr46 rfl rfl info0_one rfl ?_))
    have hb56 : Below w5.heap.size w5 w6 := hb6
    have hle3 : w3.heap.size ≤ w5.heap.size := HI.out.1.size
    refine ⟨⟨?_, ?_⟩, rfl, HP1.out.trans HN.out, ?_, ?_, Row.setCell_other (Row.setRow hr46) (by omega) _, Row.setCell (i := 0) hr57 _⟩
    · have := hb56.size
      simpa using this
    · intro k o hk ho hc
      refine (heap_setCell_other _ ⟨w.heap.size + 1, 0, none⟩ k _ (by show k ≠ w.heap.size + 1; omega)).trans ((setRow_other w6 w.heap.size k _ (by omega)).trans ?_)
      exact (hb56.block k (lt_of_some ho)).trans ho
    · exact (hBw.trans (hb56.mono hBw.size)).trans ⟨rfl, rfl, rfl, by simp, fun k hk => (heap_setCell_other _ ⟨w.heap.size + 1, 0, none⟩ k _ (by show k ≠ w.heap.size + 1; omega)).trans (setRow_other w6 w.heap.size k _ (by omega))⟩
    · have := hb56.size
      simp
      omega
  case done =>
    rintro D' ys W hD' rfl ⟨hK, st, v, h1, h2, h3, h4⟩ hKd
    have hbr := (both_reads HD.out p s (by unfold big; omega)).2 st h1
    obtain ⟨ra, rc, rfl⟩ := refs_slice h4.own
    have hBw : Below w.heap.size w W := hK.below HF.out.1 (by omega) (by omega)
    have hll : (linesOf s).length ≤ s.size := linesF_len _ _
    have HIn : Hid (InfAt W ⟨p, st.h, st.d, st.rs⟩ ra rc) := ⟨strs_own h4.own (by simp only [big]; omega) (fun r hr => by have := h2.2.2 r hr; simp only [big]; omega), hp, by have := h2.1; show st.h.size ≤ big; simp only [big]; omega, by have := h2.2.1; show st.d.size ≤ big; simp only [big]; omega⟩
    have htx := text_ok w0 D HD.out ⟨p, st.h, st.d, st.rs⟩ ra rc W (HW.out.1.trans (hBw.mono HW.out.1.size)) HIn.out (HW.out.2.1.below hBw HW.out.2.1.pos) (NTab.keep HW.out.2.2 hBw)
    have hr4 : Row W w.heap.size info0 24 := (hK.keep _ (by omega) (by omega) (by omega)).trans HF.out.2.1
    have hr5 : Row W (w.heap.size + 1) #[.int .i64 0] 25 := (hK.keep _ (by omega) (by omega) (by omega)).trans HF.out.2.2.1
    have hR6 : Row W w1.heap.size (infV ⟨p, st.h, st.d, st.rs⟩ ra rc) 24 := h4.row
    have HOwn : Hid (W.ownsRow w3.heap.size 9 1 (.slice ra st.rs.length rc) st.rs.length (st.rs.map Value.string)) := h4.own
    have HBR : Hid (goodB D ⟨p, st.h, st.d, st.rs⟩ s = goodB D (rdI p s) s ∧ (goodB D (rdI p s) s = true → (⟨p, st.h, st.d, st.rs⟩ : Inf) = rdI p s)) := hbr
    clear hK h4 hbr h1 h2 h3
    obtain ⟨J, hJe⟩ : ∃ J : Inf, J = ⟨p, st.h, st.d, st.rs⟩ := ⟨_, rfl⟩
    have hrs : J.refs = st.rs := by rw [hJe]
    rw [← hJe] at htx hR6 HIn HBR
    rw [← hrs] at HOwn
    clear hJe hrs
    unfold TextPost at htx
    cases hm : may D J with
    | false =>
      rw [hm] at htx
      simp only [Bool.false_eq_true, if_false] at htx
      have HG : Hid (goodB D J s = false) := by show _ = _; unfold goodB; rw [hm]; rfl
      clear hm
      gi_wp2_with (first
        | (refine loadInI rfl _ rfl w1.heap.size rfl 24 (infV J ra rc) hR6 rfl ?_)
        | (refine ⟨trivial, ?_⟩; gi_at_call 4; refine (callsIn_wide.2 htx).mono ?_; rintro e w8 ⟨rfl, hb8⟩
           have hR68 : Row w8 w1.heap.size (infV J ra rc) 24 := Row.below hR6 hb8 (Row.lt hR6)
           have hr48 : Row w8 w.heap.size info0 24 := Row.below hr4 hb8 (Row.lt hr4)
           have hr58 : Row w8 (w.heap.size + 1) #[.int .i64 0] 25 := Row.below hr5 hb8 (Row.lt hr5)
           have hr59 : Row (w8.setRow w.heap.size info0) (w.heap.size + 1) #[.int .i64 0] 25 := hr58.other (by omega)
           have hc5 : (w8.setRow w.heap.size info0).cell? ⟨w.heap.size + 1, 0, none⟩ = some (.int .i64 0) := (Row.cell hr59 0).trans rfl
           have hf5 := Row.frozen hr59 0
           clear htx hR6 hr4 hr5)
        | (refine loadInI rfl _ rfl w1.heap.size rfl 24 (infV J ra rc) hR68 rfl ?_)
        | (refine storeInI rfl _ _ rfl w.heap.size rfl 24 info0 info0 rfl hr48 rfl rfl info0_one rfl ?_))
      have hKd8 : ((w8.setRow w.heap.size info0).setCell ⟨w.heap.size + 1, 0, none⟩ (.int .i64 10)).heap[D']? = some (.deferred (some [])) := (heap_setCell_other _ ⟨w.heap.size + 1, 0, none⟩ D' _ (by show D' ≠ w.heap.size + 1; omega)).trans ((setRow_other w8 w.heap.size D' _ (by omega)).trans ((hb8.block D' (lt_of_some hKd)).trans hKd))
      have hBE : Below w.heap.size w ((w8.setRow w.heap.size info0).setCell ⟨w.heap.size + 1, 0, none⟩ (.int .i64 10)) := (hBw.trans (hb8.mono hBw.size)).trans ⟨rfl, rfl, rfl, by simp, fun k hk => (heap_setCell_other _ ⟨w.heap.size + 1, 0, none⟩ k _ (by show k ≠ w.heap.size + 1; omega)).trans (setRow_other w8 w.heap.size k _ (by omega))⟩
      refine ⟨by simp, .inl ⟨_, _, rfl, run_takeDeferred hKd8, ?_⟩⟩
      exact ⟨_, results_read _ _ w.heap.size (w.heap.size + 1) info0 10 rfl ((Row.setCell_other (Row.setRow hr48) (by omega) _).put hKd8 rfl) rfl rfl ((Row.setCell (i := 0) hr59 _).put hKd8 rfl), .inr ⟨HBR.out.1.symm.trans HG.out, rfl⟩, below_put hBE (by omega)⟩
    | true =>
      rw [hm] at htx
      simp only [if_true] at htx
      obtain ⟨T, hTt⟩ : ∃ T : ByteArray, T = ⟨(txt J).toArray⟩ := ⟨_, rfl⟩
      rw [← hTt] at htx
      have HGe : Hid (goodB D J s = (T.toList == s.toList)) := by show _ = _; unfold goodB; rw [hm, hTt]; rfl
      clear hm hTt
      cases hE : (T.toList == s.toList) with
      | true =>
        have HG : Hid (goodB D J s = true) := HGe.out.trans hE
        gi_wp2_with (first
          | (refine loadInI rfl _ rfl w1.heap.size rfl 24 (infV J ra rc) hR6 rfl ?_)
          | (refine ⟨trivial, ?_⟩; gi_at_call 4; refine (callsIn_wide.2 htx).mono ?_; rintro e w8 ⟨rfl, hb8⟩
             have hR68 : Row w8 w1.heap.size (infV J ra rc) 24 := Row.below hR6 hb8 (Row.lt hR6)
             have hr48 : Row w8 w.heap.size info0 24 := Row.below hr4 hb8 (Row.lt hr4)
             have hr58 : Row w8 (w.heap.size + 1) #[.int .i64 0] 25 := Row.below hr5 hb8 (Row.lt hr5)
             have hr59 : Row (w8.setRow w.heap.size (infV J ra rc)) (w.heap.size + 1) #[.int .i64 0] 25 := hr58.other (by omega)
             have hc5 : (w8.setRow w.heap.size (infV J ra rc)).cell? ⟨w.heap.size + 1, 0, none⟩ = some (.int .i64 0) := (Row.cell hr59 0).trans rfl
             have hf5 := Row.frozen hr59 0
             clear htx hR6 hr4 hr5)
          | (refine loadInI rfl _ rfl w1.heap.size rfl 24 (infV J ra rc) hR68 rfl ?_)
          | (refine storeInI rfl _ _ rfl w.heap.size rfl 24 info0 (infV J ra rc) rfl hr48 rfl rfl (infV_one J ra rc) rfl ?_))
        have hKd8 : ((w8.setRow w.heap.size (infV J ra rc)).setCell ⟨w.heap.size + 1, 0, none⟩ (.int .i64 0)).heap[D']? = some (.deferred (some [])) := (heap_setCell_other _ ⟨w.heap.size + 1, 0, none⟩ D' _ (by show D' ≠ w.heap.size + 1; omega)).trans ((setRow_other w8 w.heap.size D' _ (by omega)).trans ((hb8.block D' (lt_of_some hKd)).trans hKd))
        have hBE : Below w.heap.size w ((w8.setRow w.heap.size (infV J ra rc)).setCell ⟨w.heap.size + 1, 0, none⟩ (.int .i64 0)) := (hBw.trans (hb8.mono hBw.size)).trans ⟨rfl, rfl, rfl, by simp, fun k hk => (heap_setCell_other _ ⟨w.heap.size + 1, 0, none⟩ k _ (by show k ≠ w.heap.size + 1; omega)).trans (setRow_other w8 w.heap.size k _ (by omega))⟩
        refine ⟨by simp, .inl ⟨_, _, rfl, run_takeDeferred hKd8, ?_⟩⟩
        have hJ := HBR.out.2 (HBR.out.1.symm.trans HG.out)
        have hown9 := ownsRow_keep (w' := ((w8.setRow w.heap.size (infV J ra rc)).setCell ⟨w.heap.size + 1, 0, none⟩ (.int .i64 0)).putObj D' (.deferred none)) (own_belowR HOwn.out hb8) (fun q hq hl => by
          obtain ⟨_, hq2, c2, r2⟩ := ownsRow_lt (own_belowR HOwn.out hb8) q hq
          have hnD : q ≠ D' := fun e => by
            subst e
            have h9 := (hb8.block q (lt_of_some hKd)).trans hKd
            have r2' : w8.heap[q]? = some (.cells c2 9 (0, 0)) := r2
            rw [r2'] at h9
            cases h9
          exact (World.putObj_heap_other (by omega)).trans ((heap_setCell_other _ ⟨w.heap.size + 1, 0, none⟩ q _ (by show q ≠ w.heap.size + 1; omega)).trans (setRow_other w8 w.heap.size q _ (by omega))))
        exact ⟨_, results_read _ _ w.heap.size (w.heap.size + 1) (infV J ra rc) 0 rfl ((Row.setCell_other (Row.setRow hr48) (by omega) _).put hKd8 rfl) rfl rfl ((Row.setCell (i := 0) hr59 _).put hKd8 rfl), .inl ⟨HBR.out.1.symm.trans HG.out, ra, rc, by rw [← hJ], by rw [← hJ]; exact ⟨strs_own hown9 HIn.out.refs.len HIn.out.refs.each, HIn.out.path, HIn.out.hash, HIn.out.der⟩⟩, below_put hBE (by omega)⟩
      | false =>
        have HG : Hid (goodB D J s = false) := HGe.out.trans hE
        gi_wp2_with (first
          | (refine loadInI rfl _ rfl w1.heap.size rfl 24 (infV J ra rc) hR6 rfl ?_)
          | (refine ⟨trivial, ?_⟩; gi_at_call 4; refine (callsIn_wide.2 htx).mono ?_; rintro e w8 ⟨rfl, hb8⟩
             have hR68 : Row w8 w1.heap.size (infV J ra rc) 24 := Row.below hR6 hb8 (Row.lt hR6)
             have hr48 : Row w8 w.heap.size info0 24 := Row.below hr4 hb8 (Row.lt hr4)
             have hr58 : Row w8 (w.heap.size + 1) #[.int .i64 0] 25 := Row.below hr5 hb8 (Row.lt hr5)
             have hr59 : Row (w8.setRow w.heap.size info0) (w.heap.size + 1) #[.int .i64 0] 25 := hr58.other (by omega)
             have hc5 : (w8.setRow w.heap.size info0).cell? ⟨w.heap.size + 1, 0, none⟩ = some (.int .i64 0) := (Row.cell hr59 0).trans rfl
             have hf5 := Row.frozen hr59 0
             clear htx hR6 hr4 hr5)
          | (refine loadInI rfl _ rfl w1.heap.size rfl 24 (infV J ra rc) hR68 rfl ?_)
          | (refine storeInI rfl _ _ rfl w.heap.size rfl 24 info0 info0 rfl hr48 rfl rfl info0_one rfl ?_))
        have hKd8 : ((w8.setRow w.heap.size info0).setCell ⟨w.heap.size + 1, 0, none⟩ (.int .i64 10)).heap[D']? = some (.deferred (some [])) := (heap_setCell_other _ ⟨w.heap.size + 1, 0, none⟩ D' _ (by show D' ≠ w.heap.size + 1; omega)).trans ((setRow_other w8 w.heap.size D' _ (by omega)).trans ((hb8.block D' (lt_of_some hKd)).trans hKd))
        have hBE : Below w.heap.size w ((w8.setRow w.heap.size info0).setCell ⟨w.heap.size + 1, 0, none⟩ (.int .i64 10)) := (hBw.trans (hb8.mono hBw.size)).trans ⟨rfl, rfl, rfl, by simp, fun k hk => (heap_setCell_other _ ⟨w.heap.size + 1, 0, none⟩ k _ (by show k ≠ w.heap.size + 1; omega)).trans (setRow_other w8 w.heap.size k _ (by omega))⟩
        refine ⟨by simp, .inl ⟨_, _, rfl, run_takeDeferred hKd8, ?_⟩⟩
        exact ⟨_, results_read _ _ w.heap.size (w.heap.size + 1) info0 10 rfl ((Row.setCell_other (Row.setRow hr48) (by omega) _).put hKd8 rfl) rfl rfl ((Row.setCell (i := 0) hr59 _).put hKd8 rfl), .inr ⟨HBR.out.1.symm.trans HG.out, rfl⟩, below_put hBE (by omega)⟩
  case stop =>
    rintro D' c' pre W hD' hp' ⟨rfl, h1, h2, h3, h4, h5⟩ hKd
    have hbr := (both_reads HD.out p s (by unfold big; omega)).1 (pdL_pre hp' h1)
    gi_wp2
    refine ⟨by simp, .inl ⟨_, _, rfl, run_takeDeferred hKd, ?_⟩⟩
    exact ⟨_, results_read _ _ w.heap.size (w.heap.size + 1) info0 10 rfl (h4.put hKd rfl) rfl rfl (h5.put hKd rfl), .inr ⟨hbr, rfl⟩, below_put h2 (by omega)⟩
end Go.Proofs.YthidlckipiamkaaDoor
