/- My own work: Closure and Dead. -/
import Derived.Test.YtkbhckjpmgkgjaaG12
import Derived.Test.YtkbhckjpmgkgjaaGNo
namespace Go.Proofs.Ytkbhckjpmgkgjaa
open Go.RowKit

theorem map_ne2 (m : Nat) (w : World) : Sem.run Try.prog (binOp BinOp.neq 49 (.map (some m)) (.map none)) w = .ok (.bool true) w := by kernel_rfl
theorem gmade_yes (g : Nat) (P dv : List ByteArray) (E : List (Nat × Nat)) (w : World) (h : GAt w g P dv E) : Calls Try.prog 28 #[.pointer (some ⟨g, 0, none⟩)] w fun e w' => e = .returned (.bool true) ∧ w' = w := by
  obtain ⟨a, c, da, dc, m, _, _, hrow, _, _, _⟩ := h.ex
  have hc : w.cell? ⟨g, 2, none⟩ = some (.map (some m)) := (hrow.cell 2).trans rfl
  have hn := map_ne2 m w
  clear hrow h
  go_enter Try.func28, Try.ntmps28
  go_wp2
  go_ret
  exact ⟨rfl, rfl⟩
/-- Is one reached? -/
theorem cl1_ok (c6 rb n k : Nat) (V : Nat → Bool) (w : World) (hk : k < n) (h6 : Row w c6 #[.slice (some ⟨rb, 0, none⟩) n n] 57) (hr : Row w rb (boolsV n V) 4) : Calls Try.prog 31 #[.int .i64 (k : Int), .pointer (some ⟨c6, 0, none⟩)] w fun e w' => e = .returned (.bool (V k)) ∧ w' = w := by
  have q6 := (h6.cell 0).trans (rfl : _ = some (Value.slice (some ⟨rb, 0, none⟩) n n))
  have qr : w.cell? ⟨rb, k, none⟩ = some (.bool (V k)) := by rw [hr.cell k]; simp [hk]
  have hk' : (k : Int) < (n : Int) := by omega
  obtain ⟨v, hv⟩ : ∃ v, v = V k := ⟨_, rfl⟩
  rw [← hv] at qr ⊢
  clear h6 hr hv
  go_enter Try.func31, Try.ntmps31
  go_wp2
  go_ret
  exact ⟨rfl, rfl⟩
theorem de1_ok (c6 rb n k : Nat) (V : Nat → Bool) (w : World) (hk : k < n) (h6 : Row w c6 #[.slice (some ⟨rb, 0, none⟩) n n] 57) (hr : Row w rb (boolsV n V) 4) : Calls Try.prog 40 #[.int .i64 (k : Int), .pointer (some ⟨c6, 0, none⟩)] w fun e w' => e = .returned (.bool (!V k)) ∧ w' = w := by
  have q6 := (h6.cell 0).trans (rfl : _ = some (Value.slice (some ⟨rb, 0, none⟩) n n))
  have qr : w.cell? ⟨rb, k, none⟩ = some (.bool (V k)) := by rw [hr.cell k]; simp [hk]
  have hk' : (k : Int) < (n : Int) := by omega
  obtain ⟨v, hv⟩ : ∃ v, v = V k := ⟨_, rfl⟩
  rw [← hv] at qr ⊢
  clear h6 hr hv
  go_enter Try.func40, Try.ntmps40
  go_wp2
  go_ret
  exact ⟨rfl, rfl⟩
/-- What a list of texts is told as: a row of its own. -/
structure Told (w w' : World) (v : Value) (X : List ByteArray) : Prop where
  own : w'.ownsRow w.heap.size 9 1 v X.length (X.map Value.string)
  old : Below w.heap.size w w'
/-- What Closure tells. -/
def ClosurePost (P paths : List ByteArray) (E : List (Nat × Nat)) (w : World) (e : Ending) (w' : World) : Prop :=
  ((∃ x ∈ paths, x ∉ P) ∧ e = .returned (.tuple #[.slice none 0 0, .int .i64 14]) ∧ Below w.heap.size w w') ∨
  ((∀ x ∈ paths, x ∈ P) ∧ ∃ v V, e = .returned (.tuple #[v, .int .i64 0]) ∧ (∀ k, V k = true ↔ Rch E (rootsN P paths) k) ∧ Told w w' v (selN V P))
set_option maxRecDepth 20000 in
set_option maxHeartbeats 4000000 in
theorem closure_ok (g : Nat) (P dv paths : List ByteArray) (E : List (Nat × Nat)) (ra : Option Addr) (rc : Nat) (w : World) (h : GAt w g P dv E) (hn : P.length ≤ 4096) (hE : ∀ x ∈ E, x.1 < P.length ∧ x.2 < P.length) (hr : StrsAt w ra paths rc) :
    Calls Try.prog 9 #[.pointer (some ⟨g, 0, none⟩), .slice ra paths.length rc] w (ClosurePost P paths E w) := by
  have hmd := gmade_yes g P dv E w h
  obtain ⟨a, c, _, _, _, _, _, hrow, hS, _, _⟩ := h.ex
  have hkn := knows_ok P g a c paths ra rc w ((hrow.cell 0).trans rfl) hS h.up hr
  obtain ⟨kb, hkb⟩ : ∃ kb, kb = paths.all fun x => decide (x ∈ P) := ⟨_, rfl⟩
  rw [← hkb] at hkn
  have HKb : Hid _ := hkb
  have HG : Hid _ := h
  have HR : Hid _ := hr
  have HE : Hid _ := hE
  clear h hr hrow hS hkb hE
  go_enter Try.func9, Try.ntmps9
  go_wp2_with fail
  refine hmd.mono ?_
  rintro e w1 ⟨rfl, rfl⟩
  clear hmd
  go_wp2_with fail
  refine hkn.mono ?_
  rintro e w2 ⟨rfl, q, rfl⟩
  clear hkn
  have hb2 : Below w1.heap.size w1 (w1.drewN q) := ⟨rfl, rfl, rfl, Nat.le_refl _, fun _ _ => rfl⟩
  cases kb with
  | false =>
    go_wp2
    go_ret2
    refine .inl ⟨?_, rfl, hb2⟩
    have h1 := HKb.out.symm
    rw [List.all_eq_false] at h1
    obtain ⟨x, hx, h2⟩ := h1
    exact ⟨x, hx, fun h3 => h2 (decide_eq_true h3)⟩
  | true =>
    have H := reached_ok g P dv paths E ra rc _ (HG.out.keep hb2) hn HE.out (HR.out.keep hb2)
    have hall : ∀ x ∈ paths, x ∈ P := fun x hx => of_decide_eq_true (List.all_eq_true.1 HKb.out.symm x hx)
    have HAll : Hid _ := hall
    clear hall
    go_wp2_with fail
    refine H.mono ?_
    rintro e w3 ⟨rb, V, rfl, hrb, hV, hb3⟩
    clear H
    obtain ⟨w4, hw4⟩ : ∃ x, x = w3.alloc (.cells #[.slice (some ⟨rb, 0, none⟩) P.length P.length] 57) := ⟨_, rfl⟩
    have hb34 : Below w3.heap.size w3 w4 := by rw [hw4]; exact (Below.refl _ _).alloc (Nat.le_refl _) _
    have hr4 : Row w4 w3.heap.size #[.slice (some ⟨rb, 0, none⟩) P.length P.length] 57 := by rw [hw4]; exact Row.new w3 _ _
    have hrb4 : Row w4 rb (boolsV P.length V) 4 := hrb.below hb34 hrb.lt
    have hB4 : Below w1.heap.size w1 w4 := (hb2.trans hb3).trans (hb34.mono (by have := hb3.size; exact this))
    have H := where1_ok 31 (.pointer (some ⟨w3.heap.size, 0, none⟩)) V g P dv E w4 (HG.out.keep hB4) hn (enters_of Try.func31 (by kernel_rfl) rfl) (fun k hk wx hx => cl1_ok w3.heap.size rb P.length k V wx hk (hr4.below hx hr4.lt) (hrb4.below hx hrb4.lt))
    have HV : Hid _ := hV
    have HB4 : Hid _ := hB4
    have hw4' := hw4.symm
    clear hb34 hr4 hrb4 hB4 hV hrb hb3 hw4
    go_wp2_with fail
    refine H.mono ?_
    rintro e w5 ⟨v, rfl, ho5, hb5⟩
    clear H
    have HF : Hid (ClosurePost P paths E w1 (.returned (.tuple #[v, .int .i64 0])) w5) := by
      refine .inr ⟨HAll.out, v, V, rfl, HV.out, ?_, HB4.out.trans (hb5.mono HB4.out.size)⟩
      obtain ⟨h1, h2⟩ := ho5
      refine ⟨h1, h2.imp id ?_⟩
      rintro ⟨g', cap, cur, e1, e2, e3⟩
      exact ⟨g', cap, cur, e1, Nat.le_trans HB4.out.size e2, e3⟩
    clear ho5 hb5
    go_wp2
    go_ret2
    exact HF.out
/-- What Dead tells. -/
def DeadPost (P roots : List ByteArray) (E : List (Nat × Nat)) (w : World) (e : Ending) (w' : World) : Prop :=
  ∃ (v : Value) (V : Nat → Bool), e = .returned v ∧ (∀ k, V k = true ↔ Rch E (rootsN P roots) k) ∧ Told w w' v (selN (fun k => !V k) P)
set_option maxRecDepth 20000 in
set_option maxHeartbeats 4000000 in
theorem dead_ok (g : Nat) (P dv roots : List ByteArray) (E : List (Nat × Nat)) (ra : Option Addr) (rc : Nat) (w : World) (h : GAt w g P dv E) (hn : P.length ≤ 4096) (hE : ∀ x ∈ E, x.1 < P.length ∧ x.2 < P.length) (hr : StrsAt w ra roots rc) :
    Calls Try.prog 16 #[.pointer (some ⟨g, 0, none⟩), .slice ra roots.length rc] w (DeadPost P roots E w) := by
  have hmd := gmade_yes g P dv E w h
  have H := reached_ok g P dv roots E ra rc w h hn hE hr
  have HG : Hid _ := h
  clear h hr hE
  go_enter Try.func16, Try.ntmps16
  go_wp2_with fail
  refine hmd.mono ?_
  rintro e w1 ⟨rfl, rfl⟩
  clear hmd
  go_wp2_with fail
  refine H.mono ?_
  rintro e w3 ⟨rb, V, rfl, hrb, hV, hb3⟩
  clear H
  obtain ⟨w4, hw4⟩ : ∃ x, x = w3.alloc (.cells #[.slice (some ⟨rb, 0, none⟩) P.length P.length] 57) := ⟨_, rfl⟩
  have hb34 : Below w3.heap.size w3 w4 := by rw [hw4]; exact (Below.refl _ _).alloc (Nat.le_refl _) _
  have hr4 : Row w4 w3.heap.size #[.slice (some ⟨rb, 0, none⟩) P.length P.length] 57 := by rw [hw4]; exact Row.new w3 _ _
  have hrb4 : Row w4 rb (boolsV P.length V) 4 := hrb.below hb34 hrb.lt
  have hB4 : Below w1.heap.size w1 w4 := hb3.trans (hb34.mono hb3.size)
  have H := where1_ok 40 (.pointer (some ⟨w3.heap.size, 0, none⟩)) (fun k => !V k) g P dv E w4 (HG.out.keep hB4) hn (enters_of Try.func40 (by kernel_rfl) rfl) (fun k hk wx hx => de1_ok w3.heap.size rb P.length k V wx hk (hr4.below hx hr4.lt) (hrb4.below hx hrb4.lt))
  have HV : Hid _ := hV
  have HB4 : Hid _ := hB4
  have hw4' := hw4.symm
  clear hb34 hr4 hrb4 hB4 hV hrb hb3 hw4
  go_wp2_with fail
  refine H.mono ?_
  rintro e w5 ⟨v, rfl, ho5, hb5⟩
  clear H
  have HF : Hid (DeadPost P roots E w1 (.returned v) w5) := by
    refine ⟨v, V, rfl, HV.out, ?_, HB4.out.trans (hb5.mono HB4.out.size)⟩
    obtain ⟨h1, h2⟩ := ho5
    refine ⟨h1, h2.imp id ?_⟩
    rintro ⟨g', cap, cur, e1, e2, e3⟩
    exact ⟨g', cap, cur, e1, Nat.le_trans HB4.out.size e2, e3⟩
  clear ho5 hb5
  go_wp2
  go_ret
  exact HF.out
end Go.Proofs.Ytkbhckjpmgkgjaa
