/- My own work: Referrers, Derived, Refers. -/
import Derived.Test.YtkbhckjpmgkgjaaG34
namespace Go.Proofs.Ytkbhckjpmgkgjaa
open Go.RowKit
open Classical

set_option maxRecDepth 20000 in
set_option maxHeartbeats 4000000 in
/-- where: the paths of whose numbers something holds, rising. -/
theorem where2_ok (f : FuncId) (c1 c2 : Value) (p : Nat → Bool) (g : Nat) (P dv : List ByteArray) (E : List (Nat × Nat)) (w : World) (h : GAt w g P dv E) (hn : P.length ≤ 4096) (hef : ∀ args w, (callFunc f args).run Try.prog w = .ok (.enter f args) w)
    (hf : ∀ k, k < P.length → ∀ wx, Below w.heap.size w wx → Calls Try.prog f #[.int .i64 (k : Int), c1, c2] wx fun e w' => e = .returned (.bool (p k)) ∧ Below wx.heap.size wx w') :
    Calls Try.prog 30 #[.pointer (some ⟨g, 0, none⟩), .func (.func f) #[] #[c1, c2]] w (WherePost p P w) := by
  obtain ⟨a, c, _, _, _, _, _, hrow, hS, _, _⟩ := h.ex
  obtain ⟨n, hN⟩ : ∃ n, n = P.length := ⟨_, rfl⟩
  rw [← hN] at hn hrow hf
  have q0 := (hrow.cell 0).trans (rfl : _ = some (Value.slice a n c))
  have hle := hS.le
  rw [← hN] at hle
  obtain ⟨b, off, ha, hc⟩ := hS.ex
  have HA : Hid _ := ha
  have HC : Hid (∀ wx, Below w.heap.size w wx → ∀ i (h : i < P.length), wx.cell? ⟨b, off + i, none⟩ = some (.string P[i])) := fun wx hx i hi => (hx.cell (p := ⟨b, off + i, none⟩) (World.block_lt_of_cell? _ _ (hc i hi))).trans (hc i hi)
  have HN : Hid _ := hN
  have HF : Hid _ := hf
  clear h hrow hS ha hc hN hf
  go_enter Try.func30, Try.ntmps30
  go_wp2
  go_loopw [5, 13] (fun lv iv wr => ∃ i : Nat, iv = .int .i64 i ∧ i ≤ n ∧ wr.ownsRow w.heap.size 9 1 lv (selTo p P i).length ((selTo p P i).map Value.string) ∧ Below w.heap.size w wr) (fun _ iv _ => n - (intOf iv).toNat)
  case atStart => exact ⟨0, rfl, Nat.zero_le _, World.ownsRow_nil _ _ _ _, Below.refl _ _⟩
  case round =>
    obtain ⟨i, rfl, hi, hown, hB⟩ := hrel
    have HO : Hid _ := hown
    have HB : Hid _ := hB
    by_cases hlt : i < n
    · have hil : i < P.length := by have := HN.out; omega
      obtain rfl := HA.out (by omega)
      have hcell := HC.out wr hB i hil
      obtain ⟨x, hx⟩ : ∃ x, x = P[i] := ⟨_, rfl⟩
      rw [← hx] at hcell
      have HX : Hid _ := hx
      have hlt' : (i : Int) < (n : Int) := by omega
      have H := HF.out i hlt wr hB
      clear hx
      cases hp : p i with
      | true =>
        rw [hp] at H
        have hl : (selTo p P i).length ≤ i := selTo_len p P i
        obtain ⟨la, lc, rfl⟩ := own_slice hown
        obtain ⟨nl, hnl⟩ : ∃ nl, nl = (selTo p P i).length := ⟨_, rfl⟩
        rw [← hnl] at hown hl HO ⊢
        have HNl : Hid _ := hnl
        have HP : Hid _ := hp
        clear hown hB hp hnl
        go_wp2_with (first
          | (go_at_fn f; refine H.mono ?_; rintro e w5 ⟨rfl, hb5⟩; have HB5 : Hid (Below wr.heap.size wr w5) := hb5; have hba : Below w5.heap.size w5 (w5.alloc (.cells #[.string x] 9)) := (Below.refl _ _).alloc (Nat.le_refl _) _; have hoa : (w5.alloc (.cells #[.string x] 9)).ownsRow w.heap.size 9 1 (.slice la nl lc) nl ((selTo p P i).map Value.string) := ownsRow_keep' HO.out fun g _ hl => (hba.block g (by have := hb5.size; omega)).trans (hb5.block g hl); have HOa : Hid _ := hoa; have HBA : Hid _ := hba; have hBs : w.heap.size ≤ w5.heap.size := Nat.le_trans HB.out.size hb5.size; clear H hb5 hba hoa)
          | (at_builtin
             refine wpList_plain rfl fun K' hK' => ?_
             refine ap_one (some 24) rfl (.tmp 21) (.tmp 23) rfl w.heap.size _ nl _ rfl x HOa.out rfl hBs (by omega) ?_
             intro v6 w6 hown6 hg6
             refine hK' _ _ ?_
             have HO6 : Hid _ := hown6
             have HG6 : Hid _ := hg6
             clear hown6 hg6))
        go_roundw
        case rel =>
          refine ⟨i + 1, by go_num, by omega, ?_, HB.out.trans ⟨HG6.out.os.trans HB5.out.os, HG6.out.tape.trans HB5.out.tape, HG6.out.output.trans HB5.out.output, by have := HG6.out.size; have := HB5.out.size; have := HB.out.size; simp at *; omega, fun k hk => ((HG6.out.block k (by simp; omega) (fun e => by have := (ownsRow_lt' HO.out k e.symm).2; omega)).trans (HBA.out.block k (by omega))).trans (HB5.out.block k (by have := HB.out.size; omega))⟩⟩
          rw [selTo_yes HP.out hil, List.length_append, List.map_append, ← HNl.out, ← HX.out]
          exact HO6.out
        case measure => simp [intOf]; omega
      | false =>
        rw [hp] at H
        have HP : Hid _ := hp
        clear hown hB hp
        go_wp2_with (go_at_fn f; refine H.mono ?_; rintro e w5 ⟨rfl, hb5⟩; have HB5 : Hid (Below wr.heap.size wr w5) := hb5; clear H hb5)
        go_roundw
        case rel => exact ⟨i + 1, by go_num, by omega, by rw [selTo_no HP.out]; exact ownsRow_keep' HO.out fun g _ hl => HB5.out.block g hl, HB.out.trans (HB5.out.mono HB.out.size)⟩
        case measure => simp [intOf]; omega
    · have hlt' : ¬ (i : Int) < (n : Int) := by omega
      obtain rfl : i = n := by omega
      have HW : Hid (WherePost p P w (.returned u5) wr) := ⟨u5, rfl, by unfold selN; rw [← HN.out]; exact hown, hB⟩
      clear hown hB
      go_wp2
      go_ret
      exact HW.out
set_option maxRecDepth 20000 in
set_option maxHeartbeats 4000000 in
/-- has: an edge, by numbers. -/
theorem ghas_ok (g : Nat) (P dv : List ByteArray) (E : List (Nat × Nat)) (i j : Nat) (w : World) (h : GAt w g P dv E) : Calls Try.prog 35 #[.pointer (some ⟨g, 0, none⟩), .int .i64 (i : Int), .int .i64 (j : Int)] w fun e w' => e = .returned (.bool (decide ((i, j) ∈ E))) ∧ Below w.heap.size w w' := by
  obtain ⟨a, c, da, dc, m, es, clk, hrow, _, _, hE⟩ := h.ex
  have hc := (hrow.cell 2).trans (rfl : _ = some (Value.map (some m)))
  have hlk := lookup_edge hE (i, j)
  have hb : Below w.heap.size w (w.alloc (.cells #[] 75)) := (Below.refl _ _).alloc (Nat.le_refl _) _
  have HB : Hid _ := hb
  obtain ⟨R, hR⟩ : ∃ R, R = decide ((i, j) ∈ E) := ⟨_, rfl⟩
  rw [← hR] at hlk ⊢
  simp only [ekey] at hlk
  clear h hrow hE hb hR
  go_enter Try.func35, Try.ntmps35
  go_wp2
  go_ret
  exact ⟨rfl, HB.out⟩
set_option maxRecDepth 20000 in
set_option maxHeartbeats 4000000 in
theorem rc1_ok (c2 c6 g i : Nat) (P dv : List ByteArray) (E : List (Nat × Nat)) (k : Nat) (w : World) (h : GAt w g P dv E) (h2 : Row w c2 #[.pointer (some ⟨g, 0, none⟩)] 26) (h6 : Row w c6 #[.int .i64 (i : Int)] 3) : Calls Try.prog 34 #[.int .i64 (k : Int), .pointer (some ⟨c2, 0, none⟩), .pointer (some ⟨c6, 0, none⟩)] w fun e w' => e = .returned (.bool (decide ((k, i) ∈ E))) ∧ Below w.heap.size w w' := by
  have q2 := (h2.cell 0).trans (rfl : _ = some (Value.pointer (some ⟨g, 0, none⟩)))
  have q6 := (h6.cell 0).trans (rfl : _ = some (Value.int .i64 (i : Int)))
  have H := ghas_ok g P dv E k i w h
  clear h h2 h6
  go_enter Try.func34, Try.ntmps34
  go_wp2_with fail
  refine H.mono ?_
  rintro e w1 ⟨rfl, hb⟩
  clear H
  go_wp2
  go_ret
  exact ⟨rfl, hb⟩
set_option maxRecDepth 20000 in
set_option maxHeartbeats 4000000 in
theorem dc1_ok (c2 c3 g : Nat) (P dv : List ByteArray) (E : List (Nat × Nat)) (x : ByteArray) (k : Nat) (hk : k < dv.length) (w : World) (h : GAt w g P dv E) (h2 : Row w c2 #[.pointer (some ⟨g, 0, none⟩)] 26) (h3 : Row w c3 #[.string x] 9) : Calls Try.prog 41 #[.int .i64 (k : Int), .pointer (some ⟨c2, 0, none⟩), .pointer (some ⟨c3, 0, none⟩)] w fun e w' => e = .returned (.bool (decide (dv[k] = x))) ∧ Below w.heap.size w w' := by
  have q2 := (h2.cell 0).trans (rfl : _ = some (Value.pointer (some ⟨g, 0, none⟩)))
  have q3 := (h3.cell 0).trans (rfl : _ = some (Value.string x))
  obtain ⟨a, c, da, dc, m, es, clk, hrow, _, hD, _⟩ := h.ex
  have q1 := (hrow.cell 1).trans (rfl : _ = some (Value.slice da dv.length dc))
  obtain ⟨db, dof, hda, hdc⟩ := hD.ex
  obtain rfl := hda (by omega)
  have qd := hdc k hk
  obtain ⟨n, hn⟩ : ∃ n, n = dv.length := ⟨_, rfl⟩
  rw [← hn] at q1
  have hkn : (k : Int) < (n : Int) := by omega
  obtain ⟨y, hy⟩ : ∃ y, y = dv[k] := ⟨_, rfl⟩
  rw [← hy] at qd ⊢
  clear h hrow hD h2 h3 hda hdc hy hn
  by_cases hyx : y = x
  · subst hyx
    go_enter Try.func41, Try.ntmps41
    go_wp2
    go_quiet (fail)
    go_wp2
    go_ret
    exact ⟨by simp, ⟨rfl, rfl, rfl, Nat.le_refl _, fun _ _ => rfl⟩⟩
  · have hyx' : (y.toList == x.toList) = false := by
      rw [beq_eq_false_iff_ne]
      intro e
      rw [ByteArray.toList_eq, ByteArray.toList_eq] at e
      exact hyx (gb_inj e)
    have HD : Hid (decide (y = x) = false) := decide_eq_false hyx
    clear hyx
    go_enter Try.func41, Try.ntmps41
    go_wp2
    go_quiet (fail)
    go_wp2
    go_ret
    exact ⟨by rw [HD.out]; rfl, ⟨rfl, rfl, rfl, Nat.le_refl _, fun _ _ => rfl⟩⟩
/-- What Referrers tells. -/
def ReferPost (P : List ByteArray) (E : List (Nat × Nat)) (p : ByteArray) (w : World) (e : Ending) (w' : World) : Prop :=
  (p ∉ P ∧ e = .returned (.tuple #[.slice none 0 0, .int .i64 14]) ∧ Below w.heap.size w w') ∨ (∃ k, P[k]? = some p ∧ ∃ v, e = .returned (.tuple #[v, .int .i64 0]) ∧ Told w w' v (selN (fun n => decide ((n, k) ∈ E)) P))
set_option maxRecDepth 20000 in
set_option maxHeartbeats 4000000 in
theorem referrers_ok (g : Nat) (P dv : List ByteArray) (E : List (Nat × Nat)) (p : ByteArray) (w : World) (h : GAt w g P dv E) (hn : P.length ≤ 4096) : Calls Try.prog 11 #[.pointer (some ⟨g, 0, none⟩), .string p] w (ReferPost P E p w) := by
  have hb1 : Below w.heap.size w (w.alloc (.cells #[.pointer (some ⟨g, 0, none⟩)] 26)) := (Below.refl _ _).alloc (Nat.le_refl _) _
  have hr1 : Row (w.alloc (.cells #[.pointer (some ⟨g, 0, none⟩)] 26)) w.heap.size #[.pointer (some ⟨g, 0, none⟩)] 26 := Row.new w _ _
  obtain ⟨w1, hw1⟩ : ∃ x, x = w.alloc (.cells #[.pointer (some ⟨g, 0, none⟩)] 26) := ⟨_, rfl⟩
  rw [← hw1] at hb1 hr1
  have hw1' := hw1.symm
  have h1 := h.keep hb1
  have hmd := gmade_yes g P dv E w1 h1
  obtain ⟨a, c, _, _, _, _, _, hrow, hS, _, _⟩ := h1.ex
  have hnu := number_ok P p g a c w1 ((hrow.cell 0).trans rfl) hS h.up
  have q2 := (hr1.cell 0).trans (rfl : _ = some (Value.pointer (some ⟨g, 0, none⟩)))
  have HG : Hid (GAt w1 g P dv E) := h1
  have HB1 : Hid (Below w.heap.size w w1) := hb1
  have HR1 : Hid (Row w1 w.heap.size #[.pointer (some ⟨g, 0, none⟩)] 26) := hr1
  obtain ⟨RP, hRP⟩ : ∃ RP, RP = ReferPost P E p w := ⟨_, rfl⟩
  have HRP1 : Hid (p ∉ P → ∀ w', Below w.heap.size w w' → RP (.returned (.tuple #[.slice none 0 0, .int .i64 14])) w') := fun h1 w' h2 => by rw [hRP]; exact .inl ⟨h1, rfl, h2⟩
  have HRP2 : Hid (∀ k v w', P[k]? = some p → Told w w' v (selN (fun n => decide ((n, k) ∈ E)) P) → RP (.returned (.tuple #[v, .int .i64 0])) w') := fun k v w' h1 h2 => by rw [hRP]; exact .inr ⟨k, h1, v, rfl, h2⟩
  rw [← hRP]
  clear h h1 hrow hS hb1 hr1 hw1 hRP
  go_enter Try.func11, Try.ntmps11
  go_wp2_with fail
  refine hmd.mono ?_
  rintro e w2 ⟨rfl, hw2⟩
  rw [hw2]
  clear hw2 hmd
  go_wp2_with fail
  refine hnu.mono ?_
  rintro e w3 ⟨k, rfl, hk, -, q, hw3⟩
  have hb3 : Below w1.heap.size w1 w3 := by rw [hw3]; exact ⟨rfl, rfl, rfl, Nat.le_refl _, fun _ _ => rfl⟩
  have HB3 : Hid _ := hb3
  obtain ⟨w4, hw4⟩ : ∃ x, x = w3.alloc (.cells #[.int .i64 (k : Int)] 3) := ⟨_, rfl⟩
  have hw4' := hw4.symm
  have hr4 : Row w4 w3.heap.size #[.int .i64 (k : Int)] 3 := by rw [hw4]; exact Row.new w3 _ _
  have hb4 : Below w3.heap.size w3 w4 := by rw [hw4]; exact (Below.refl _ _).alloc (Nat.le_refl _) _
  have HB4 : Hid (Below w1.heap.size w1 w4) := HB3.out.trans (hb4.mono HB3.out.size)
  have HR4 : Hid (Row w4 w3.heap.size #[.int .i64 (k : Int)] 3) := hr4
  have q24 : w4.cell? ⟨w.heap.size, 0, none⟩ = some (.pointer (some ⟨g, 0, none⟩)) := (Row.cell (Row.below HR1.out HB4.out (Row.lt HR1.out)) 0).trans rfl
  have q23 : w3.cell? ⟨w.heap.size, 0, none⟩ = some (.pointer (some ⟨g, 0, none⟩)) := (Row.cell (Row.below HR1.out HB3.out (Row.lt HR1.out)) 0).trans rfl
  have HK : Hid (p ∈ P → P[k]? = some p) := hk
  obtain ⟨b, hb⟩ : ∃ b, b = decide (p ∈ P) := ⟨_, rfl⟩
  have HBo : Hid _ := hb
  rw [← hb]
  clear hnu hw3 hb3 hr4 hb4 hk hb hw4 q2
  cases b with
  | false =>
    have HD := HRP1.out (of_decide_eq_false HBo.out.symm) w4 (HB1.out.trans (HB4.out.mono HB1.out.size))
    have HDD : Hid _ := HD
    clear HD
    go_wp2
    exact HDD.out
  | true =>
    have H := where2_ok 34 (.pointer (some ⟨w.heap.size, 0, none⟩)) (.pointer (some ⟨w3.heap.size, 0, none⟩)) (fun n => decide ((n, k) ∈ E)) g P dv E w4 (HG.out.keep HB4.out) hn (enters_of Try.func34 (by kernel_rfl) rfl) (fun j hj wx hx => rc1_ok w.heap.size w3.heap.size g k P dv E j wx ((HG.out.keep HB4.out).keep hx) (Row.below (Row.below HR1.out HB4.out (Row.lt HR1.out)) hx (Row.lt (Row.below HR1.out HB4.out (Row.lt HR1.out)))) (Row.below HR4.out hx (Row.lt HR4.out)))
    go_wp2_with fail
    refine H.mono ?_
    rintro e w5 ⟨v, rfl, ho5, hb5⟩
    have HD := HRP2.out k v w5 (HK.out (of_decide_eq_true HBo.out.symm)) (Told.lift (HB1.out.trans (HB4.out.mono HB1.out.size)) ⟨ho5, hb5⟩)
    have HDD : Hid _ := HD
    clear H ho5 hb5 HD
    go_wp2
    exact HDD.out
def DerivedPost (P dv : List ByteArray) (x : ByteArray) (w : World) (e : Ending) (w' : World) : Prop := ∃ v, e = .returned v ∧ Told w w' v (selN (fun n => decide (dv[n]? = some x)) P)
set_option maxRecDepth 20000 in
set_option maxHeartbeats 4000000 in
theorem derived_ok (g : Nat) (P dv : List ByteArray) (E : List (Nat × Nat)) (p : ByteArray) (w : World) (h : GAt w g P dv E) (hn : P.length ≤ 4096) (hd : dv.length = P.length) : Calls Try.prog 18 #[.pointer (some ⟨g, 0, none⟩), .string p] w (DerivedPost P dv p w) := by
  have hb0 : Below w.heap.size w (w.alloc (.cells #[.pointer (some ⟨g, 0, none⟩)] 26)) := (Below.refl _ _).alloc (Nat.le_refl _) _
  have hr0 : Row (w.alloc (.cells #[.pointer (some ⟨g, 0, none⟩)] 26)) w.heap.size #[.pointer (some ⟨g, 0, none⟩)] 26 := Row.new w _ _
  obtain ⟨w0, hw0⟩ : ∃ x, x = w.alloc (.cells #[.pointer (some ⟨g, 0, none⟩)] 26) := ⟨_, rfl⟩
  rw [← hw0] at hb0 hr0
  have hw0' := hw0.symm
  have hb01 : Below w0.heap.size w0 (w0.alloc (.cells #[.string p] 9)) := (Below.refl _ _).alloc (Nat.le_refl _) _
  have hr3 : Row (w0.alloc (.cells #[.string p] 9)) w0.heap.size #[.string p] 9 := Row.new w0 _ _
  obtain ⟨w1, hw1⟩ : ∃ x, x = w0.alloc (.cells #[.string p] 9) := ⟨_, rfl⟩
  rw [← hw1] at hb01 hr3
  have hw1' := hw1.symm
  have hb1 : Below w.heap.size w w1 := hb0.trans (hb01.mono hb0.size)
  have hr1 : Row w1 w.heap.size #[.pointer (some ⟨g, 0, none⟩)] 26 := hr0.below hb01 hr0.lt
  have h1 := h.keep hb1
  have hmd := gmade_yes g P dv E w1 h1
  have q2 := (hr1.cell 0).trans (rfl : _ = some (Value.pointer (some ⟨g, 0, none⟩)))
  have HB1 : Hid (Below w.heap.size w w1) := hb1
  have H := where2_ok 41 (.pointer (some ⟨w.heap.size, 0, none⟩)) (.pointer (some ⟨w0.heap.size, 0, none⟩)) (fun n => decide (dv[n]? = some p)) g P dv E w1 h1 hn (enters_of Try.func41 (by kernel_rfl) rfl) (fun j hj wx hx => by
    have h2 := dc1_ok w.heap.size w0.heap.size g P dv E p j (by omega) wx (h1.keep hx) (hr1.below hx hr1.lt) (hr3.below hx hr3.lt)
    have e : decide (dv[j]? = some p) = decide (dv[j]'(by omega) = p) := by
      rw [List.getElem?_eq_getElem (by omega)]
      exact decide_eq_decide.2 ⟨fun e => Option.some.inj e, fun e => by rw [e]⟩
    rw [e]
    exact h2)
  clear h h1 hb0 hr0 hw0 hb01 hr3 hw1 hb1 hr1
  go_enter Try.func18, Try.ntmps18
  go_wp2_with fail
  refine hmd.mono ?_
  rintro e w2 ⟨rfl, hw2⟩
  rw [hw2]
  clear hw2 hmd
  go_wp2_with fail
  refine H.mono ?_
  rintro e w5 ⟨v, rfl, ho5, hb5⟩
  have HD : Hid (DerivedPost P dv p w (.returned v) w5) := ⟨v, rfl, Told.lift HB1.out ⟨ho5, hb5⟩⟩
  clear H ho5 hb5
  go_wp2
  go_ret
  exact HD.out
theorem two_strs (x y : ByteArray) (hx : x.size ≤ big) (hy : y.size ≤ big) (w : World) : StrsAt (w.alloc (.cells #[.string x, .string y] 9)) (some ⟨w.heap.size, 0, none⟩) [x, y] 2 := by
  have hr : Row (w.alloc (.cells #[.string x, .string y] 9)) w.heap.size #[.string x, .string y] 9 := Row.new w _ _
  refine ⟨⟨w.heap.size, 0, fun _ => rfl, fun i hi => ?_⟩, (fun e => nomatch e), Nat.le_refl _, by unfold maxLen; omega, by unfold big; simp, fun s hs => ?_⟩
  · rw [Nat.zero_add, hr.cell i]
    have hi2 : i < 2 := hi
    rcases Nat.lt_or_ge i 1 with h1 | h1
    · obtain rfl : i = 0 := by omega
      rfl
    · obtain rfl : i = 1 := by omega
      rfl
  · simp only [List.mem_cons, List.not_mem_nil, or_false] at hs
    rcases hs with rfl | rfl
    · exact hx
    · exact hy
set_option maxRecDepth 20000 in
set_option maxHeartbeats 4000000 in
theorem refers_ok (g : Nat) (P dv : List ByteArray) (E : List (Nat × Nat)) (x y : ByteArray) (hx : x.size ≤ big) (hy : y.size ≤ big) (w : World) (h : GAt w g P dv E) : Calls Try.prog 20 #[.pointer (some ⟨g, 0, none⟩), .string x, .string y] w fun e w' => e = .returned (.bool (decide (∃ i j : Nat, P[i]? = some x ∧ P[j]? = some y ∧ (i, j) ∈ E))) ∧ Below w.heap.size w w' := by
  have hmd := gmade_yes g P dv E w h
  have hst := two_strs x y hx hy w
  have hb1 : Below w.heap.size w (w.alloc (.cells #[.string x, .string y] 9)) := (Below.refl _ _).alloc (Nat.le_refl _) _
  obtain ⟨w1, hw1⟩ : ∃ u, u = w.alloc (.cells #[.string x, .string y] 9) := ⟨_, rfl⟩
  rw [← hw1] at hst hb1
  have hw1' := hw1.symm
  have h1 := h.keep hb1
  obtain ⟨a, c, _, _, _, _, _, hrow, hS, _, _⟩ := h1.ex
  have hkn := knows_ok P g a c [x, y] (some ⟨w.heap.size, 0, none⟩) 2 w1 ((hrow.cell 0).trans rfl) hS h.up hst
  have HG : Hid (GAt w1 g P dv E) := h1
  have HB1 : Hid (Below w.heap.size w w1) := hb1
  obtain ⟨kb, hkb⟩ : ∃ kb, kb = ([x, y].all fun z => decide (z ∈ P)) := ⟨_, rfl⟩
  rw [← hkb] at hkn
  have HKb : Hid _ := hkb
  have HU : Hid (Up P) := h.up
  obtain ⟨R, hR⟩ : ∃ R, R = decide (∃ i j : Nat, P[i]? = some x ∧ P[j]? = some y ∧ (i, j) ∈ E) := ⟨_, rfl⟩
  have HR : Hid _ := hR
  rw [← hR]
  clear h h1 hrow hS hst hb1 hw1 hkb hR
  go_enter Try.func20, Try.ntmps20
  go_wp2_with fail
  refine hmd.mono ?_
  rintro e w2 ⟨rfl, hw2⟩
  rw [hw2]
  clear hw2 hmd
  go_wp2_with fail
  refine hkn.mono ?_
  rintro e w2 ⟨rfl, q, hw2⟩
  have hb2 : Below w1.heap.size w1 w2 := by rw [hw2]; exact ⟨rfl, rfl, rfl, Nat.le_refl _, fun _ _ => rfl⟩
  have HB2 : Hid (Below w.heap.size w w2) := HB1.out.trans (hb2.mono HB1.out.size)
  have HG2 : Hid (GAt w2 g P dv E) := HG.out.keep hb2
  clear hkn hw2 hb2
  cases kb with
  | false =>
    have HRf : Hid (R = false) := by
      show _ = _
      rw [HR.out]
      refine decide_eq_false ?_
      rintro ⟨i, j, h1, h2, _⟩
      have h3 := HKb.out
      simp [List.mem_of_getElem? h1, List.mem_of_getElem? h2] at h3
    go_wp2
    go_ret
    exact ⟨by rw [HRf.out]; rfl, HB2.out⟩
  | true =>
    have hm : x ∈ P ∧ y ∈ P := by
      have h3 := HKb.out
      simpa using h3.symm
    obtain ⟨hmx, hmy⟩ := hm
    obtain ⟨a2, c2, _, _, _, _, _, hrow2, hS2, _, _⟩ := HG2.out.ex
    have hn1 := number_ok P x g a2 c2 w2 ((hrow2.cell 0).trans rfl) hS2 HU.out
    clear hrow2 hS2
    have HMx : Hid (x ∈ P) := hmx
    have HMy : Hid (y ∈ P) := hmy
    clear hmx hmy
    go_wp2_with fail
    refine hn1.mono ?_
    rintro e w3 ⟨i, rfl, hi, -, q3, hw3⟩
    have HI : Hid (P[i]? = some x) := hi HMx.out
    have hb3 : Below w2.heap.size w2 w3 := by rw [hw3]; exact ⟨rfl, rfl, rfl, Nat.le_refl _, fun _ _ => rfl⟩
    have HB3 : Hid (Below w.heap.size w w3) := HB2.out.trans (hb3.mono HB2.out.size)
    have HG3 : Hid (GAt w3 g P dv E) := HG2.out.keep hb3
    obtain ⟨a3, c3, _, _, _, _, _, hrow3, hS3, _, _⟩ := HG3.out.ex
    have hn2 := number_ok P y g a3 c3 w3 ((hrow3.cell 0).trans rfl) hS3 HU.out
    clear hn1 hw3 hi hb3 hrow3 hS3
    go_wp2_with fail
    refine hn2.mono ?_
    rintro e w4 ⟨j, rfl, hj, -, q4, hw4⟩
    have HJ : Hid (P[j]? = some y) := hj HMy.out
    have hb4 : Below w3.heap.size w3 w4 := by rw [hw4]; exact ⟨rfl, rfl, rfl, Nat.le_refl _, fun _ _ => rfl⟩
    have HB4 : Hid (Below w.heap.size w w4) := HB3.out.trans (hb4.mono HB3.out.size)
    have hh := ghas_ok g P dv E i j w4 (HG3.out.keep hb4)
    have HRd : Hid (R = decide ((i, j) ∈ E)) := by
      show _ = _
      rw [HR.out]
      refine decide_eq_decide.2 ⟨?_, fun h => ⟨i, j, HI.out, HJ.out, h⟩⟩
      rintro ⟨i2, j2, h1, h2, h3⟩
      rw [HU.out.inj h1 HI.out, HU.out.inj h2 HJ.out] at h3
      exact h3
    rw [← HRd.out] at hh
    clear hn2 hw4 hj hb4
    go_wp2_with fail
    refine hh.mono ?_
    rintro e w5 ⟨rfl, hb5⟩
    have HB5 : Hid (Below w.heap.size w w5) := HB4.out.trans (hb5.mono HB4.out.size)
    clear hh hb5
    go_wp2
    go_ret
    exact ⟨rfl, HB5.out⟩
end Go.Proofs.Ytkbhckjpmgkgjaa
