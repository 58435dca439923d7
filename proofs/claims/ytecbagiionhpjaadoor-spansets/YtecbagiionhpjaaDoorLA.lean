/- My own work: the algebra of sets; the law SpanAlgebra. -/
import Derived.Test.YtecbagiionhpjaaDoorSG
namespace Go.Proofs.YtecbagiionhpjaaDoor
open Go.RowKit

theorem not_inn {A : List Cut} (hA : SetOk A) (p : Cut) : inn false (notS A) p = (inn false allC p && !inn false A p) := mk2_inn rfl hA all_ok p
theorem and_inn {A B : List Cut} (hA : SetOk A) (hB : SetOk B) (p : Cut) : inn false (andS A B) p = (inn false A p && inn false B p) := mk2_inn rfl hA hB p
theorem or_inn {A B : List Cut} (hA : SetOk A) (hB : SetOk B) (p : Cut) : inn false (orS A B) p = (inn false A p || inn false B p) := mk2_inn rfl hA hB p
theorem not_good {A : List Cut} (hA : SetOk A) : SetOk (notS A) := mk2_ok rfl hA all_ok
theorem and_good {A B : List Cut} (hA : SetOk A) (hB : SetOk B) : SetOk (andS A B) := mk2_ok rfl hA hB
theorem or_good {A B : List Cut} (hA : SetOk A) (hB : SetOk B) : SetOk (orS A B) := mk2_ok rfl hA hB
theorem in_all {A : List Cut} (hA : SetOk A) (p : Cut) : (inn false A p && !inn false allC p) = false := by
  cases h : inn false A p with
  | false => rfl
  | true => rw [hA.ins p h]; rfl
theorem alg1 {A : List Cut} (hA : SetOk A) : notS (notS A) = A := set_one (not_good (not_good hA)) hA fun p => by
  have := in_all hA p
  rw [not_inn (not_good hA), not_inn hA]
  revert this
  cases inn false A p <;> cases inn false allC p <;> simp
theorem alg2 {A B : List Cut} (hA : SetOk A) (hB : SetOk B) : notS (andS A B) = orS (notS A) (notS B) := set_one (not_good (and_good hA hB)) (or_good (not_good hA) (not_good hB)) fun p => by
  rw [not_inn (and_good hA hB), and_inn hA hB, or_inn (not_good hA) (not_good hB), not_inn hA, not_inn hB]
  cases inn false A p <;> cases inn false B p <;> cases inn false allC p <;> rfl
theorem alg3 {A B : List Cut} (hA : SetOk A) (hB : SetOk B) : andS A B = andS B A := set_one (and_good hA hB) (and_good hB hA) fun p => by
  rw [and_inn hA hB, and_inn hB hA, Bool.and_comm]
theorem alg4 {A B : List Cut} (hA : SetOk A) (hB : SetOk B) : orS A B = orS B A := set_one (or_good hA hB) (or_good hB hA) fun p => by
  rw [or_inn hA hB, or_inn hB hA, Bool.or_comm]
theorem alg5 {A : List Cut} (hA : SetOk A) : orS A (notS A) = allC := set_one (or_good hA (not_good hA)) all_ok fun p => by
  have := in_all hA p
  rw [or_inn hA (not_good hA), not_inn hA]
  revert this
  cases inn false A p <;> cases inn false allC p <;> simp
theorem alg6 {A : List Cut} (hA : SetOk A) : andS A (notS A) = [] := set_one (and_good hA (not_good hA)) none_ok fun p => by
  rw [and_inn hA (not_good hA), not_inn hA]
  show _ = false
  cases inn false A p <;> cases inn false allC p <;> rfl
theorem alg8 {A : List Cut} (hA : SetOk A) : andS A allC = A := set_one (and_good hA all_ok) hA fun p => by
  have := in_all hA p
  rw [and_inn hA all_ok]
  revert this
  cases inn false A p <;> cases inn false allC p <;> simp
theorem alg9 {A : List Cut} (hA : SetOk A) : orS A A = A := set_one (or_good hA hA) hA fun p => by rw [or_inn hA hA, Bool.or_self]
/-- A set that may be, in memory, of at most so many cuts. -/
structure Gd (w : World) (p : Value) (L : List Cut) (n : Nat) : Prop where
  g : GoodAt w p L w.heap.size
  l : L.length ≤ n
theorem Gd.next {w w' : World} {p : Value} {L : List Cut} {n : Nat} (h : Gd w p L n) (hb : Below w.heap.size w w') : Gd w' p L n := ⟨(h.g.keep hb).mono hb.size, h.l⟩
theorem Gd.not {w : World} {p : Value} {A : List Cut} {n : Nat} (h : Gd w p A n) (hn : n ≤ 9000) : Calls Tryd.prog 24 #[p] w fun e w' => ∃ q, e = .returned q ∧ Gd w' q (notS A) (n + 2) ∧ Below w.heap.size w w' :=
  (not_ok h.g (by have := h.l; omega)).mono fun _ _ ⟨q, h1, h2, h3⟩ => ⟨q, h1, ⟨⟨h2, not_good h.g.ok⟩, by have h4 : (notS A).length ≤ A.length + allC.length := mk2_len fNot A allC; have := h.l; have e : allC.length = 2 := rfl; omega⟩, h3⟩
theorem Gd.and {w : World} {p q : Value} {A B : List Cut} {n m : Nat} (h : Gd w p A n) (k : Gd w q B m) (hn : n ≤ 9000) (hm : m ≤ 9000) : Calls Tryd.prog 22 #[p, q] w fun e w' => ∃ q, e = .returned q ∧ Gd w' q (andS A B) (n + m) ∧ Below w.heap.size w w' :=
  (and_ok h.g k.g (by have := h.l; have := k.l; omega)).mono fun _ _ ⟨q, h1, h2, h3⟩ => ⟨q, h1, ⟨⟨h2, and_good h.g.ok k.g.ok⟩, by have h4 : (andS A B).length ≤ A.length + B.length := mk2_len fAnd A B; have := h.l; have := k.l; omega⟩, h3⟩
theorem Gd.or {w : World} {p q : Value} {A B : List Cut} {n m : Nat} (h : Gd w p A n) (k : Gd w q B m) (hn : n ≤ 9000) (hm : m ≤ 9000) : Calls Tryd.prog 23 #[p, q] w fun e w' => ∃ q, e = .returned q ∧ Gd w' q (orS A B) (n + m) ∧ Below w.heap.size w w' :=
  (or_ok h.g k.g (by have := h.l; have := k.l; omega)).mono fun _ _ ⟨q, h1, h2, h3⟩ => ⟨q, h1, ⟨⟨h2, or_good h.g.ok k.g.ok⟩, by have h4 : (orS A B).length ≤ A.length + B.length := mk2_len fOr A B; have := h.l; have := k.l; omega⟩, h3⟩
theorem Gd.all (w : World) : Calls Tryd.prog 20 #[] w fun e w' => ∃ q, e = .returned q ∧ Gd w' q allC 2 ∧ Below w.heap.size w w' :=
  (all_new w).mono fun _ _ ⟨q, h1, h2, h3⟩ => ⟨q, h1, ⟨⟨h2, all_ok⟩, Nat.le_refl _⟩, h3⟩
theorem Gd.none (w : World) : Calls Tryd.prog 21 #[] w fun e w' => ∃ q, e = .returned q ∧ Gd w' q [] 0 ∧ Below w.heap.size w w' :=
  (none_ok' w).mono fun _ _ ⟨q, h1, h2, h3⟩ => ⟨q, h1, ⟨⟨h2, none_ok⟩, Nat.le_refl _⟩, h3⟩
theorem Gd.same {w : World} {p q : Value} {A B : List Cut} {n m : Nat} (h : Gd w p A n) (k : Gd w q B m) (hn : n ≤ 9000) (hm : m ≤ 9000) (e : A = B) : Calls Tryd.prog 25 #[p, q] w fun e w' => e = .returned (.bool true) ∧ Below w.heap.size w w' := by
  have hs := same_ok h.g.at' k.g.at' (by have := h.l; omega) (by have := k.l; omega)
  rw [decide_eq_true e] at hs
  exact hs
set_option maxRecDepth 40000 in
set_option maxHeartbeats 8000000 in
theorem law_algebra (a b : ByteArray) (ha : a.size ≤ 140737488355328) (hb : b.size ≤ 140737488355328) (w : World) : Calls Tryd.prog 8 #[.string a, .string b] w fun e w' => e = .returned (.bool true) ∧ Below w.heap.size w w' := by
  have h1 := rangeParse_ok a w ha
  have HP : Hid (∀ wx, Calls Tryd.prog 14 #[.string b] wx (PaPost (rangeS (vb b)) wx)) := fun wx => rangeParse_ok b wx hb
  clear ha hb
  go_enter Tryd.func8, Tryd.ntmps8
  go_wp2_with fail
  refine h1.mono ?_
  rintro e w1 (⟨_, rfl, hb1⟩ | ⟨A, x, _, rfl, hx, hxl, hb1⟩)
  · have HB1 : Hid (Below w.heap.size w w1) := hb1
    clear h1 hb1
    go_wp2_with fail
    refine Calls.mono (HP.out w1) ?_
    rintro e w2 (⟨_, rfl, hb2⟩ | ⟨B, y, _, rfl, hy, hyl, hb2⟩)
    · have HB2 : Hid (Below w.heap.size w w2) := HB1.out.trans (hb2.mono HB1.out.size)
      clear HP hb2
      go_wp2
      go_ret
      exact ⟨rfl, HB2.out⟩
    · have HB2 : Hid (Below w.heap.size w w2) := HB1.out.trans (hb2.mono HB1.out.size)
      clear HP hb2 hy hyl
      go_wp2
      go_ret
      exact ⟨rfl, HB2.out⟩
  · have HB1 : Hid (Below w.heap.size w w1) := hb1
    have HX1 : Hid (Gd w1 x A 578) := ⟨hx, hxl⟩
    obtain ⟨gx, vx, rfl, _⟩ := hx.at'.ex
    clear h1 hb1 hx hxl
    go_wp2_with fail
    refine Calls.mono (HP.out w1) ?_
    rintro e w2 (⟨_, rfl, hb2⟩ | ⟨B, y, _, rfl, hy, hyl, hb2⟩)
    · have HB2 : Hid (Below w.heap.size w w2) := HB1.out.trans (hb2.mono HB1.out.size)
      clear HP hb2
      go_wp2
      go_ret
      exact ⟨rfl, HB2.out⟩
    · have HB2 : Hid (Below w.heap.size w w2) := HB1.out.trans (hb2.mono HB1.out.size)
      have HX2 : Hid (Gd w2 (.pointer (some ⟨gx, 0, none⟩)) A 578) := Gd.next HX1.out hb2
      have HY2 : Hid (Gd w2 y B 578) := ⟨hy, hyl⟩
      obtain ⟨gy, vy, rfl, _⟩ := hy.at'.ex
      have HOA : Hid (SetOk A) := (Gd.g HX2.out).ok
      have HOB : Hid (SetOk B) := (Gd.g HY2.out).ok
      clear HP hb2 hy hyl HX1 HB1
      go_wp2_with fail
      refine Calls.mono (Gd.not HX2.out (by omega)) ?_
      rintro e w3 ⟨qN, rfl, hg3, hb3⟩
      have HX3 : Hid (Gd w3 (.pointer (some ⟨gx, 0, none⟩)) (A) 578) := Gd.next HX2.out hb3
      have HY3 : Hid (Gd w3 (.pointer (some ⟨gy, 0, none⟩)) (B) 578) := Gd.next HY2.out hb3
      have HB3 : Hid (Below w.heap.size w w3) := HB2.out.trans (hb3.mono HB2.out.size)
      have HN3 : Hid (Gd w3 qN (notS (A)) 580) := hg3
      clear hg3
      clear hb3 HB2 HX2 HY2
      go_wp2_with fail
      refine Calls.mono (Gd.not HN3.out (by omega)) ?_
      rintro e w4 ⟨qT1, rfl, hg4, hb4⟩
      have HX4 : Hid (Gd w4 (.pointer (some ⟨gx, 0, none⟩)) (A) 578) := Gd.next HX3.out hb4
      have HY4 : Hid (Gd w4 (.pointer (some ⟨gy, 0, none⟩)) (B) 578) := Gd.next HY3.out hb4
      have HN4 : Hid (Gd w4 (qN) (notS (A)) 580) := Gd.next HN3.out hb4
      have HB4 : Hid (Below w.heap.size w w4) := HB3.out.trans (hb4.mono HB3.out.size)
      have HT14 : Hid (Gd w4 qT1 (notS (notS (A))) 582) := hg4
      clear hg4
      clear hb4 HB3 HX3 HY3 HN3
      go_wp2_with fail
      refine Calls.mono (Gd.same HT14.out HX4.out (by omega) (by omega) (alg1 HOA.out)) ?_
      rintro e w5 ⟨rfl, hb5⟩
      have HX5 : Hid (Gd w5 (.pointer (some ⟨gx, 0, none⟩)) (A) 578) := Gd.next HX4.out hb5
      have HY5 : Hid (Gd w5 (.pointer (some ⟨gy, 0, none⟩)) (B) 578) := Gd.next HY4.out hb5
      have HN5 : Hid (Gd w5 (qN) (notS (A)) 580) := Gd.next HN4.out hb5
      have HB5 : Hid (Below w.heap.size w w5) := HB4.out.trans (hb5.mono HB4.out.size)
      clear hb5 HB4 HX4 HY4 HN4 HT14
      go_wp2_with fail
      refine Calls.mono (Gd.and HX5.out HY5.out (by omega) (by omega)) ?_
      rintro e w6 ⟨qT1, rfl, hg6, hb6⟩
      have HX6 : Hid (Gd w6 (.pointer (some ⟨gx, 0, none⟩)) (A) 578) := Gd.next HX5.out hb6
      have HY6 : Hid (Gd w6 (.pointer (some ⟨gy, 0, none⟩)) (B) 578) := Gd.next HY5.out hb6
      have HN6 : Hid (Gd w6 (qN) (notS (A)) 580) := Gd.next HN5.out hb6
      have HB6 : Hid (Below w.heap.size w w6) := HB5.out.trans (hb6.mono HB5.out.size)
      have HT16 : Hid (Gd w6 qT1 (andS (A) (B)) 1156) := hg6
      clear hg6
      clear hb6 HB5 HX5 HY5 HN5
      go_wp2_with fail
      refine Calls.mono (Gd.not HT16.out (by omega)) ?_
      rintro e w7 ⟨qT2, rfl, hg7, hb7⟩
      have HX7 : Hid (Gd w7 (.pointer (some ⟨gx, 0, none⟩)) (A) 578) := Gd.next HX6.out hb7
      have HY7 : Hid (Gd w7 (.pointer (some ⟨gy, 0, none⟩)) (B) 578) := Gd.next HY6.out hb7
      have HN7 : Hid (Gd w7 (qN) (notS (A)) 580) := Gd.next HN6.out hb7
      have HB7 : Hid (Below w.heap.size w w7) := HB6.out.trans (hb7.mono HB6.out.size)
      have HT27 : Hid (Gd w7 qT2 (notS (andS (A) (B))) 1158) := hg7
      clear hg7
      clear hb7 HB6 HX6 HY6 HN6 HT16
      go_wp2_with fail
      refine Calls.mono (Gd.not HY7.out (by omega)) ?_
      rintro e w8 ⟨qT3, rfl, hg8, hb8⟩
      have HX8 : Hid (Gd w8 (.pointer (some ⟨gx, 0, none⟩)) (A) 578) := Gd.next HX7.out hb8
      have HY8 : Hid (Gd w8 (.pointer (some ⟨gy, 0, none⟩)) (B) 578) := Gd.next HY7.out hb8
      have HN8 : Hid (Gd w8 (qN) (notS (A)) 580) := Gd.next HN7.out hb8
      have HT28 : Hid (Gd w8 (qT2) (notS (andS (A) (B))) 1158) := Gd.next HT27.out hb8
      have HB8 : Hid (Below w.heap.size w w8) := HB7.out.trans (hb8.mono HB7.out.size)
      have HT38 : Hid (Gd w8 qT3 (notS (B)) 580) := hg8
      clear hg8
      clear hb8 HB7 HX7 HY7 HN7 HT27
      go_wp2_with fail
      refine Calls.mono (Gd.or HN8.out HT38.out (by omega) (by omega)) ?_
      rintro e w9 ⟨qT4, rfl, hg9, hb9⟩
      have HX9 : Hid (Gd w9 (.pointer (some ⟨gx, 0, none⟩)) (A) 578) := Gd.next HX8.out hb9
      have HY9 : Hid (Gd w9 (.pointer (some ⟨gy, 0, none⟩)) (B) 578) := Gd.next HY8.out hb9
      have HN9 : Hid (Gd w9 (qN) (notS (A)) 580) := Gd.next HN8.out hb9
      have HT29 : Hid (Gd w9 (qT2) (notS (andS (A) (B))) 1158) := Gd.next HT28.out hb9
      have HB9 : Hid (Below w.heap.size w w9) := HB8.out.trans (hb9.mono HB8.out.size)
      have HT49 : Hid (Gd w9 qT4 (orS (notS (A)) (notS (B))) 1160) := hg9
      clear hg9
      clear hb9 HB8 HX8 HY8 HN8 HT28 HT38
      go_wp2_with fail
      refine Calls.mono (Gd.same HT29.out HT49.out (by omega) (by omega) (alg2 HOA.out HOB.out)) ?_
      rintro e w10 ⟨rfl, hb10⟩
      have HX10 : Hid (Gd w10 (.pointer (some ⟨gx, 0, none⟩)) (A) 578) := Gd.next HX9.out hb10
      have HY10 : Hid (Gd w10 (.pointer (some ⟨gy, 0, none⟩)) (B) 578) := Gd.next HY9.out hb10
      have HN10 : Hid (Gd w10 (qN) (notS (A)) 580) := Gd.next HN9.out hb10
      have HB10 : Hid (Below w.heap.size w w10) := HB9.out.trans (hb10.mono HB9.out.size)
      clear hb10 HB9 HX9 HY9 HN9 HT29 HT49
      go_wp2_with fail
      refine Calls.mono (Gd.and HX10.out HY10.out (by omega) (by omega)) ?_
      rintro e w11 ⟨qT1, rfl, hg11, hb11⟩
      have HX11 : Hid (Gd w11 (.pointer (some ⟨gx, 0, none⟩)) (A) 578) := Gd.next HX10.out hb11
      have HY11 : Hid (Gd w11 (.pointer (some ⟨gy, 0, none⟩)) (B) 578) := Gd.next HY10.out hb11
      have HN11 : Hid (Gd w11 (qN) (notS (A)) 580) := Gd.next HN10.out hb11
      have HB11 : Hid (Below w.heap.size w w11) := HB10.out.trans (hb11.mono HB10.out.size)
      have HT111 : Hid (Gd w11 qT1 (andS (A) (B)) 1156) := hg11
      clear hg11
      clear hb11 HB10 HX10 HY10 HN10
      go_wp2_with fail
      refine Calls.mono (Gd.and HY11.out HX11.out (by omega) (by omega)) ?_
      rintro e w12 ⟨qT2, rfl, hg12, hb12⟩
      have HX12 : Hid (Gd w12 (.pointer (some ⟨gx, 0, none⟩)) (A) 578) := Gd.next HX11.out hb12
      have HY12 : Hid (Gd w12 (.pointer (some ⟨gy, 0, none⟩)) (B) 578) := Gd.next HY11.out hb12
      have HN12 : Hid (Gd w12 (qN) (notS (A)) 580) := Gd.next HN11.out hb12
      have HT112 : Hid (Gd w12 (qT1) (andS (A) (B)) 1156) := Gd.next HT111.out hb12
      have HB12 : Hid (Below w.heap.size w w12) := HB11.out.trans (hb12.mono HB11.out.size)
      have HT212 : Hid (Gd w12 qT2 (andS (B) (A)) 1156) := hg12
      clear hg12
      clear hb12 HB11 HX11 HY11 HN11 HT111
      go_wp2_with fail
      refine Calls.mono (Gd.same HT112.out HT212.out (by omega) (by omega) (alg3 HOA.out HOB.out)) ?_
      rintro e w13 ⟨rfl, hb13⟩
      have HX13 : Hid (Gd w13 (.pointer (some ⟨gx, 0, none⟩)) (A) 578) := Gd.next HX12.out hb13
      have HY13 : Hid (Gd w13 (.pointer (some ⟨gy, 0, none⟩)) (B) 578) := Gd.next HY12.out hb13
      have HN13 : Hid (Gd w13 (qN) (notS (A)) 580) := Gd.next HN12.out hb13
      have HB13 : Hid (Below w.heap.size w w13) := HB12.out.trans (hb13.mono HB12.out.size)
      clear hb13 HB12 HX12 HY12 HN12 HT112 HT212
      go_wp2_with fail
      refine Calls.mono (Gd.or HX13.out HY13.out (by omega) (by omega)) ?_
      rintro e w14 ⟨qT1, rfl, hg14, hb14⟩
      have HX14 : Hid (Gd w14 (.pointer (some ⟨gx, 0, none⟩)) (A) 578) := Gd.next HX13.out hb14
      have HY14 : Hid (Gd w14 (.pointer (some ⟨gy, 0, none⟩)) (B) 578) := Gd.next HY13.out hb14
      have HN14 : Hid (Gd w14 (qN) (notS (A)) 580) := Gd.next HN13.out hb14
      have HB14 : Hid (Below w.heap.size w w14) := HB13.out.trans (hb14.mono HB13.out.size)
      have HT114 : Hid (Gd w14 qT1 (orS (A) (B)) 1156) := hg14
      clear hg14
      clear hb14 HB13 HX13 HY13 HN13
      go_wp2_with fail
      refine Calls.mono (Gd.or HY14.out HX14.out (by omega) (by omega)) ?_
      rintro e w15 ⟨qT2, rfl, hg15, hb15⟩
      have HX15 : Hid (Gd w15 (.pointer (some ⟨gx, 0, none⟩)) (A) 578) := Gd.next HX14.out hb15
      have HY15 : Hid (Gd w15 (.pointer (some ⟨gy, 0, none⟩)) (B) 578) := Gd.next HY14.out hb15
      have HN15 : Hid (Gd w15 (qN) (notS (A)) 580) := Gd.next HN14.out hb15
      have HT115 : Hid (Gd w15 (qT1) (orS (A) (B)) 1156) := Gd.next HT114.out hb15
      have HB15 : Hid (Below w.heap.size w w15) := HB14.out.trans (hb15.mono HB14.out.size)
      have HT215 : Hid (Gd w15 qT2 (orS (B) (A)) 1156) := hg15
      clear hg15
      clear hb15 HB14 HX14 HY14 HN14 HT114
      go_wp2_with fail
      refine Calls.mono (Gd.same HT115.out HT215.out (by omega) (by omega) (alg4 HOA.out HOB.out)) ?_
      rintro e w16 ⟨rfl, hb16⟩
      have HX16 : Hid (Gd w16 (.pointer (some ⟨gx, 0, none⟩)) (A) 578) := Gd.next HX15.out hb16
      have HY16 : Hid (Gd w16 (.pointer (some ⟨gy, 0, none⟩)) (B) 578) := Gd.next HY15.out hb16
      have HN16 : Hid (Gd w16 (qN) (notS (A)) 580) := Gd.next HN15.out hb16
      have HB16 : Hid (Below w.heap.size w w16) := HB15.out.trans (hb16.mono HB15.out.size)
      clear hb16 HB15 HX15 HY15 HN15 HT115 HT215
      go_wp2_with fail
      refine Calls.mono (Gd.or HX16.out HN16.out (by omega) (by omega)) ?_
      rintro e w17 ⟨qT1, rfl, hg17, hb17⟩
      have HX17 : Hid (Gd w17 (.pointer (some ⟨gx, 0, none⟩)) (A) 578) := Gd.next HX16.out hb17
      have HY17 : Hid (Gd w17 (.pointer (some ⟨gy, 0, none⟩)) (B) 578) := Gd.next HY16.out hb17
      have HN17 : Hid (Gd w17 (qN) (notS (A)) 580) := Gd.next HN16.out hb17
      have HB17 : Hid (Below w.heap.size w w17) := HB16.out.trans (hb17.mono HB16.out.size)
      have HT117 : Hid (Gd w17 qT1 (orS (A) (notS (A))) 1158) := hg17
      clear hg17
      clear hb17 HB16 HX16 HY16 HN16
      go_wp2_with fail
      refine Calls.mono (Gd.all w17) ?_
      rintro e w18 ⟨qT2, rfl, hg18, hb18⟩
      have HX18 : Hid (Gd w18 (.pointer (some ⟨gx, 0, none⟩)) (A) 578) := Gd.next HX17.out hb18
      have HY18 : Hid (Gd w18 (.pointer (some ⟨gy, 0, none⟩)) (B) 578) := Gd.next HY17.out hb18
      have HN18 : Hid (Gd w18 (qN) (notS (A)) 580) := Gd.next HN17.out hb18
      have HT118 : Hid (Gd w18 (qT1) (orS (A) (notS (A))) 1158) := Gd.next HT117.out hb18
      have HB18 : Hid (Below w.heap.size w w18) := HB17.out.trans (hb18.mono HB17.out.size)
      have HT218 : Hid (Gd w18 qT2 (allC) 2) := hg18
      clear hg18
      clear hb18 HB17 HX17 HY17 HN17 HT117
      go_wp2_with fail
      refine Calls.mono (Gd.same HT118.out HT218.out (by omega) (by omega) (alg5 HOA.out)) ?_
      rintro e w19 ⟨rfl, hb19⟩
      have HX19 : Hid (Gd w19 (.pointer (some ⟨gx, 0, none⟩)) (A) 578) := Gd.next HX18.out hb19
      have HY19 : Hid (Gd w19 (.pointer (some ⟨gy, 0, none⟩)) (B) 578) := Gd.next HY18.out hb19
      have HN19 : Hid (Gd w19 (qN) (notS (A)) 580) := Gd.next HN18.out hb19
      have HB19 : Hid (Below w.heap.size w w19) := HB18.out.trans (hb19.mono HB18.out.size)
      clear hb19 HB18 HX18 HY18 HN18 HT118 HT218
      go_wp2_with fail
      refine Calls.mono (Gd.and HX19.out HN19.out (by omega) (by omega)) ?_
      rintro e w20 ⟨qT1, rfl, hg20, hb20⟩
      have HX20 : Hid (Gd w20 (.pointer (some ⟨gx, 0, none⟩)) (A) 578) := Gd.next HX19.out hb20
      have HY20 : Hid (Gd w20 (.pointer (some ⟨gy, 0, none⟩)) (B) 578) := Gd.next HY19.out hb20
      have HN20 : Hid (Gd w20 (qN) (notS (A)) 580) := Gd.next HN19.out hb20
      have HB20 : Hid (Below w.heap.size w w20) := HB19.out.trans (hb20.mono HB19.out.size)
      have HT120 : Hid (Gd w20 qT1 (andS (A) (notS (A))) 1158) := hg20
      clear hg20
      clear hb20 HB19 HX19 HY19 HN19
      go_wp2_with fail
      refine Calls.mono (Gd.none w20) ?_
      rintro e w21 ⟨qT2, rfl, hg21, hb21⟩
      have HX21 : Hid (Gd w21 (.pointer (some ⟨gx, 0, none⟩)) (A) 578) := Gd.next HX20.out hb21
      have HY21 : Hid (Gd w21 (.pointer (some ⟨gy, 0, none⟩)) (B) 578) := Gd.next HY20.out hb21
      have HN21 : Hid (Gd w21 (qN) (notS (A)) 580) := Gd.next HN20.out hb21
      have HT121 : Hid (Gd w21 (qT1) (andS (A) (notS (A))) 1158) := Gd.next HT120.out hb21
      have HB21 : Hid (Below w.heap.size w w21) := HB20.out.trans (hb21.mono HB20.out.size)
      have HT221 : Hid (Gd w21 qT2 ([]) 0) := hg21
      clear hg21
      clear hb21 HB20 HX20 HY20 HN20 HT120
      go_wp2_with fail
      refine Calls.mono (Gd.same HT121.out HT221.out (by omega) (by omega) (alg6 HOA.out)) ?_
      rintro e w22 ⟨rfl, hb22⟩
      have HX22 : Hid (Gd w22 (.pointer (some ⟨gx, 0, none⟩)) (A) 578) := Gd.next HX21.out hb22
      have HY22 : Hid (Gd w22 (.pointer (some ⟨gy, 0, none⟩)) (B) 578) := Gd.next HY21.out hb22
      have HN22 : Hid (Gd w22 (qN) (notS (A)) 580) := Gd.next HN21.out hb22
      have HB22 : Hid (Below w.heap.size w w22) := HB21.out.trans (hb22.mono HB21.out.size)
      clear hb22 HB21 HX21 HY21 HN21 HT121 HT221
      go_wp2_with fail
      refine Calls.mono (Gd.and HX22.out HN22.out (by omega) (by omega)) ?_
      rintro e w23 ⟨qT1, rfl, hg23, hb23⟩
      have HX23 : Hid (Gd w23 (.pointer (some ⟨gx, 0, none⟩)) (A) 578) := Gd.next HX22.out hb23
      have HY23 : Hid (Gd w23 (.pointer (some ⟨gy, 0, none⟩)) (B) 578) := Gd.next HY22.out hb23
      have HN23 : Hid (Gd w23 (qN) (notS (A)) 580) := Gd.next HN22.out hb23
      have HB23 : Hid (Below w.heap.size w w23) := HB22.out.trans (hb23.mono HB22.out.size)
      have HT123 : Hid (Gd w23 qT1 (andS (A) (notS (A))) 1158) := hg23
      clear hg23
      clear hb23 HB22 HX22 HY22 HN22
      have hE := empty_set (Gd.g HT123.out).at' (by have := Gd.l HT123.out; omega)
      rw [alg6 HOA.out, show decide (([] : List Cut).length = 0) = true from rfl] at hE
      go_wp2_with fail
      refine hE.mono ?_
      rintro e wz ⟨rfl, hwz⟩
      rw [hwz]
      clear hwz hE
      go_wp2_with fail
      refine Calls.mono (Gd.all w23) ?_
      rintro e w24 ⟨qT2, rfl, hg24, hb24⟩
      have HX24 : Hid (Gd w24 (.pointer (some ⟨gx, 0, none⟩)) (A) 578) := Gd.next HX23.out hb24
      have HY24 : Hid (Gd w24 (.pointer (some ⟨gy, 0, none⟩)) (B) 578) := Gd.next HY23.out hb24
      have HN24 : Hid (Gd w24 (qN) (notS (A)) 580) := Gd.next HN23.out hb24
      have HB24 : Hid (Below w.heap.size w w24) := HB23.out.trans (hb24.mono HB23.out.size)
      have HT224 : Hid (Gd w24 qT2 (allC) 2) := hg24
      clear hg24
      clear hb24 HB23 HX23 HY23 HN23
      go_wp2_with fail
      refine Calls.mono (Gd.and HX24.out HT224.out (by omega) (by omega)) ?_
      rintro e w25 ⟨qT3, rfl, hg25, hb25⟩
      have HX25 : Hid (Gd w25 (.pointer (some ⟨gx, 0, none⟩)) (A) 578) := Gd.next HX24.out hb25
      have HY25 : Hid (Gd w25 (.pointer (some ⟨gy, 0, none⟩)) (B) 578) := Gd.next HY24.out hb25
      have HN25 : Hid (Gd w25 (qN) (notS (A)) 580) := Gd.next HN24.out hb25
      have HB25 : Hid (Below w.heap.size w w25) := HB24.out.trans (hb25.mono HB24.out.size)
      have HT325 : Hid (Gd w25 qT3 (andS (A) (allC)) 580) := hg25
      clear hg25
      clear hb25 HB24 HX24 HY24 HN24 HT224
      go_wp2_with fail
      refine Calls.mono (Gd.same HT325.out HX25.out (by omega) (by omega) (alg8 HOA.out)) ?_
      rintro e w26 ⟨rfl, hb26⟩
      have HX26 : Hid (Gd w26 (.pointer (some ⟨gx, 0, none⟩)) (A) 578) := Gd.next HX25.out hb26
      have HY26 : Hid (Gd w26 (.pointer (some ⟨gy, 0, none⟩)) (B) 578) := Gd.next HY25.out hb26
      have HN26 : Hid (Gd w26 (qN) (notS (A)) 580) := Gd.next HN25.out hb26
      have HB26 : Hid (Below w.heap.size w w26) := HB25.out.trans (hb26.mono HB25.out.size)
      clear hb26 HB25 HX25 HY25 HN25 HT325
      go_wp2_with fail
      refine Calls.mono (Gd.or HX26.out HX26.out (by omega) (by omega)) ?_
      rintro e w27 ⟨qT1, rfl, hg27, hb27⟩
      have HX27 : Hid (Gd w27 (.pointer (some ⟨gx, 0, none⟩)) (A) 578) := Gd.next HX26.out hb27
      have HY27 : Hid (Gd w27 (.pointer (some ⟨gy, 0, none⟩)) (B) 578) := Gd.next HY26.out hb27
      have HN27 : Hid (Gd w27 (qN) (notS (A)) 580) := Gd.next HN26.out hb27
      have HB27 : Hid (Below w.heap.size w w27) := HB26.out.trans (hb27.mono HB26.out.size)
      have HT127 : Hid (Gd w27 qT1 (orS (A) (A)) 1156) := hg27
      clear hg27
      clear hb27 HB26 HX26 HY26 HN26
      go_wp2_with fail
      refine Calls.mono (Gd.same HT127.out HX27.out (by omega) (by omega) (alg9 HOA.out)) ?_
      rintro e w28 ⟨rfl, hb28⟩
      have HX28 : Hid (Gd w28 (.pointer (some ⟨gx, 0, none⟩)) (A) 578) := Gd.next HX27.out hb28
      have HY28 : Hid (Gd w28 (.pointer (some ⟨gy, 0, none⟩)) (B) 578) := Gd.next HY27.out hb28
      have HN28 : Hid (Gd w28 (qN) (notS (A)) 580) := Gd.next HN27.out hb28
      have HB28 : Hid (Below w.heap.size w w28) := HB27.out.trans (hb28.mono HB27.out.size)
      clear hb28 HB27 HX27 HY27 HN27 HT127
      go_wp2
      go_ret
      exact ⟨rfl, HB28.out⟩
end Go.Proofs.YtecbagiionhpjaaDoor
