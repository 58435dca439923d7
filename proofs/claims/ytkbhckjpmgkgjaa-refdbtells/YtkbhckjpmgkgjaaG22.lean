/- My own work: the walk of Order. -/
import Derived.Test.YtkbhckjpmgkgjaaG21
import Derived.Test.YtkbhckjpmgkgjaaG13
namespace Go.Proofs.Ytkbhckjpmgkgjaa
open Go.RowKit

theorem OrdAt.keep {w w' : World} {B B2 r q o n : Nat} {C : Nat → Value} {T : Nat → List Nat} {W : Nat → Nat} {rv : Value} {R : List Nat} (h : OrdAt w B B2 r q o n C T W rv R) (hb : ∀ (k : Nat) (c : Array Value) (t : TypeId) (fr : Nat × Nat), w.heap[k]? = some (.cells c t fr) → t ≠ 9 → w'.heap[k]? = w.heap[k]?) (hs : w.heap.size ≤ w'.heap.size) : OrdAt w' B B2 r q o n C T W rv R := by
  refine ⟨⟨(hb r _ _ _ h.rws.row (by decide)).trans h.rws.row, fun k hk => ownsRow_keep' (h.rws.own k hk) fun g hg _ => ?_, h.rws.apart, h.rws.lt, Nat.le_trans h.rws.le hs⟩, (hb q _ _ _ h.wts (by decide)).trans h.wts, (hb o _ _ _ h.ord (by decide)).trans h.ord, h.lt, h.ne, ?_, h.le, h.top, Nat.le_trans h.size hs⟩
  · obtain ⟨D, hD⟩ := ownsRow_row (h.rws.own k hk) g hg
    exact hb g _ _ _ hD (by decide)
  · obtain ⟨base, cap, e1, e2, e3, ⟨e4, e5⟩ | ⟨b, off, cur, e4, e5, e6, e7, e8⟩⟩ := h.ready
    · exact ⟨base, cap, e1, e2, e3, .inl ⟨e4, e5⟩⟩
    · exact ⟨base, cap, e1, e2, e3, .inr ⟨b, off, cur, e4, (hb b _ _ _ e5 (by decide)).trans e5, e6, e7, e8⟩⟩
def lenV : Value → Nat | .slice _ m _ => m | _ => 0
/-- The texts of some numbers. -/
def txtsN (P : List ByteArray) (L : List Nat) : List ByteArray := L.map fun k => P.getD k ⟨#[]⟩
/-- What Order tells. -/
def OrderPost (P : List ByteArray) (E : List (Nat × Nat)) (w : World) (e : Ending) (w' : World) : Prop :=
  ∃ D L, (∀ x, x ∈ D ↔ x ∈ E) ∧ OTold D P.length L ∧ (∀ k, ¬ RdyE D P.length L k) ∧
    ((L.length < P.length ∧ e = .returned (.tuple #[.slice none 0 0, .int .i64 16]) ∧ Below w.heap.size w w') ∨
     (L.length = P.length ∧ ∃ v, e = .returned (.tuple #[v, .int .i64 0]) ∧ Told w w' v (txtsN P L)))
set_option maxRecDepth 20000 in
set_option maxHeartbeats 8000000 in
theorem order_ok (g : Nat) (P dv : List ByteArray) (E : List (Nat × Nat)) (w : World) (h : GAt w g P dv E) (hn : P.length ≤ 4096) (hE : ∀ x ∈ E, x.1 < P.length ∧ x.2 < P.length) :
    Calls Try.prog 13 #[.pointer (some ⟨g, 0, none⟩)] w (OrderPost P E w) := by
  have hmd := gmade_yes g P dv E w h
  have H := begin_ok g P dv E w h hn hE
  have hfew := edges_few h.nd hE hn
  obtain ⟨a, c, _, _, _, _, _, hrow, hS, _, _⟩ := h.ex
  obtain ⟨n, hN⟩ : ∃ n, n = P.length := ⟨_, rfl⟩
  have HG : Hid _ := h
  have HS : Hid _ := hS
  have HE : Hid _ := hE
  rw [← hN] at hrow hn
  have HR : Hid _ := hrow
  have HN : Hid _ := hN
  have hgl := hrow.lt
  have hnd := h.nd
  clear h hrow hS hE hN
  go_enter Try.func13, Try.ntmps13
  go_wp2_with fail
  refine hmd.mono ?_
  rintro e w0 ⟨rfl, rfl⟩
  clear hmd
  go_wp2_with fail
  refine H.mono ?_
  rintro e w1 ⟨B, B2, r, q, o, C, D, rv, rfl, hDn, hDE, hO, hB1, hlr, hlq, hlo⟩
  clear H
  rw [← HN.out] at hO
  have HDE : Hid _ := hDE
  have HDn : Hid _ := hDn
  have HO : Hid _ := hO
  have HB1 : Hid _ := hB1
  have hlB := hO.le
  have hlq2 := hO.lt.1
  have hs1 := hB1.size
  clear hDE hDn hO hB1
  have hws : w0.heap.size ≤ w1.heap.size := hs1
  go_wp2
  go_loopw [5] (fun lv wr => ∃ (L : List Nat) (W : Nat → Nat) (rv : Value) (R : List Nat), OInv D n L W R ∧ OrdAt wr B B2 r q o n C (refT D) W rv R ∧ wr.ownsRow w0.heap.size 9 1 lv L.length ((txtsN P L).map Value.string) ∧ Below w0.heap.size w0 wr) (fun lv _ => n - (lenV lv))
  case atStart => exact ⟨[], _, rv, _, OInv.start D n, HO.out, World.ownsRow_nil _ _ _ _, HB1.out⟩
  case round =>
    obtain ⟨L, W, rvj, R, hI, hO, hown, hB⟩ := hrel
    obtain ⟨la, lc, rfl⟩ := own_slice hown
    have hLn : L.length ≤ n := hI.told.few
    have hrd := hO.ready
    obtain ⟨base, cap, hrv, _, _, _⟩ := hrd
    have qo2 : wr.cell? ⟨o, 2, none⟩ = some (.slice base R.length cap) := by rw [← hrv]; exact (hO.ord.cell 2).trans rfl
    cases R with
    | nil =>
      have HT : Hid (OTold D n L ∧ ∀ k, ¬ RdyE D n L k) := ⟨hI.told, fun k hk => by have := (hI.mem k).2 hk; cases this⟩
      have hgr : Row wr g _ 51 := Row.below (w := w0) HR.out hB hgl
      have q0 : wr.cell? ⟨g, 0, none⟩ = some (.slice a n c) := (hgr.cell 0).trans rfl
      have q2' : wr.cell? ⟨o, 2, none⟩ = some (.slice base 0 cap) := qo2
      obtain ⟨nl, hnl⟩ : ∃ x, x = L.length := ⟨_, rfl⟩
      rw [← hnl] at hown hLn ⊢
      have HNl : Hid _ := hnl
      by_cases hlt : nl < n
      · have hlt' : (nl : Int) < (n : Int) := by omega
        have HF : Hid (OrderPost P E w0 (.returned (.tuple #[.slice none 0 0, .int .i64 16])) wr) := ⟨D, L, HDE.out, by rw [← HN.out]; exact HT.out.1, by rw [← HN.out]; exact HT.out.2, .inl ⟨by rw [← HN.out, ← HNl.out]; exact hlt, rfl, hB⟩⟩
        clear hI hO hown hB hgr hnl hrv qo2
        go_wp2
        go_ret2
        exact HF.out
      · have hlt' : ¬ (nl : Int) < (n : Int) := by omega
        have HF : Hid (OrderPost P E w0 (.returned (.tuple #[.slice la nl lc, .int .i64 0])) wr) := ⟨D, L, HDE.out, by rw [← HN.out]; exact HT.out.1, by rw [← HN.out]; exact HT.out.2, .inr ⟨by rw [← HN.out, ← HNl.out]; omega, _, rfl, by unfold txtsN; rw [List.length_map, ← HNl.out]; exact hown, hB⟩⟩
        clear hI hO hown hB hgr hnl hrv qo2
        go_wp2
        go_ret2
        exact HF.out
    | cons n0 R =>
      have hr0 := (hI.mem n0).1 List.mem_cons_self
      have hn0 := hr0.1
      have hDb : ∀ x ∈ D, x.1 < n ∧ x.2 < n := fun x hx => by rw [HN.out]; exact HE.out x ((HDE.out x).1 hx)
      obtain ⟨hI2, hpre⟩ := hI.step HDn.out hDb
      have hDl : D.length ≤ 16777216 := Nat.le_trans (len_le D E HDn.out fun x hx => (HDE.out x).1 hx) hfew
      have hRl : R.length ≤ 4096 := by
        have h1 := len_le R (List.range n) ((List.pairwise_cons.1 hI.up).2.imp fun h => Nat.ne_of_lt h) (fun k hk => List.mem_range.2 ((hI.mem k).1 (List.mem_cons_of_mem _ hk)).1)
        rw [List.length_range] at h1
        omega
      have hTl : (refT D n0).length ≤ 16777216 := by
        unfold refT
        rw [List.length_map]
        exact Nat.le_trans (List.length_filter_le _ _) hDl
      have hOd : OrdAt wr.drew B B2 r q o n C (refT D) W rvj (n0 :: R) := hO.keep (fun _ _ _ _ _ _ => rfl) (Nat.le_refl _)
      have H := next_ok wr.drew w0.heap.size B B2 r q o n C (refT D) W rvj n0 R hOd ⟨hlq, hlo, by omega⟩ hn0 (fun f hf => (hDb _ (refT_mem.1 hf).1).1) hTl hRl (fun j f hf => by
        obtain ⟨⟨h1, h2⟩, h3, h4⟩ := hpre j f hf
        refine ⟨⟨h1, by omega⟩, h3.imp fun h => Nat.le_of_lt h, ?_⟩
        have h5 := len_le _ (List.range n) (h3.imp fun h => Nat.ne_of_lt h) (fun k hk => List.mem_range.2 (h4 k hk))
        rw [List.length_range] at h5
        omega)
      obtain ⟨sb, so, hsa, _⟩ := HS.out.ex
      have hn0P : n0 < P.length := by have := HN.out; omega
      obtain rfl := hsa (by omega)
      have hsc : ∀ wx, Below w0.heap.size w0 wx → ∀ i (h : i < P.length), wx.cell? ⟨sb, so + i, none⟩ = some (.string P[i]) := fun wx hw i hi => by
        obtain ⟨b', o', h1, h2⟩ := (HS.out.keep hw).ex
        have h3 := h1 (by omega)
        cases h3
        exact h2 i hi
      obtain ⟨x, hx⟩ : ∃ x, x = P[n0] := ⟨_, rfl⟩
      have hn0' : (n0 : Int) < (n : Int) := by omega
      have hgt : (0 : Int) < ((R.length + 1 : Nat) : Int) := by omega
      have q2' : wr.cell? ⟨o, 2, none⟩ = some (.slice base (R.length + 1) cap) := qo2
      have hBd : Below w0.heap.size w0 wr.drew := hB.drew
      have hownd : wr.drew.ownsRow w0.heap.size 9 1 (.slice la L.length lc) L.length ((txtsN P L).map Value.string) := hown
      have hLn2 : L.length + 1 ≤ n := by have h9 := hI2.told.few; rw [List.length_append] at h9; exact h9
      have HI2 : Hid _ := hI2
      have HX : Hid _ := hx
      have HL9 : Hid (txtsN P (L ++ [n0]) = txtsN P L ++ [x]) := by
        show _ = _
        unfold txtsN
        rw [List.map_append, hx]
        simp [List.getD, hn0P]
      obtain ⟨nl, hnl⟩ : ∃ y, y = L.length := ⟨_, rfl⟩
      rw [← hnl] at hownd hLn2 ⊢
      have HNl : Hid _ := hnl
      have HOo : Hid _ := hOd.ord
      clear hI hO hown hB hrv qo2 hpre hr0 hI2 hnl hOd hDb hsa
      go_wp2
      refine wp_region_permA [(false, 0), (false, 1), (false, 2), (false, 3), (false, 4), (false, 5), (true, 6), (false, 7), (false, 8), (true, 9), (true, 10), (true, 11)] (fun wx => Below w0.heap.size w0 wx) (by kernel_rfl) (by kernel_rfl) hBd ?_
      refine a_value (some 17) (.slice la nl lc) rfl rfl (by rfl) (fun wx hw => ?_) ?_
      · go_simp
      simp only [Act.put, List.setIfInBounds_toArray, List.set_cons_zero, List.set_cons_succ]
      refine a_value (some 18) (.pointer (some ⟨g, 0, none⟩)) rfl rfl (by rfl) (fun wx hw => ?_) ?_
      · go_simp
      simp only [Act.put, List.setIfInBounds_toArray, List.set_cons_zero, List.set_cons_succ]
      refine a_value (some 19) (.pointer (some ⟨g, 0, none⟩)) rfl rfl (by rfl) (fun wx hw => ?_) ?_
      · go_simp
      simp only [Act.put, List.setIfInBounds_toArray, List.set_cons_zero, List.set_cons_succ]
      refine a_value (some 20) (.pointer (some ⟨g, 0, none⟩)) rfl rfl (by rfl) (fun wx hw => ?_) ?_
      · go_simp
      simp only [Act.put, List.setIfInBounds_toArray, List.set_cons_zero, List.set_cons_succ]
      refine a_value (some 21) (.slice (some ⟨sb, so, none⟩) n c) rfl rfl (by rfl) (fun wx hw => ?_) ?_
      · have h0 := (Row.cell (Row.below (w := w0) HR.out hw hgl) 0).trans (rfl : _ = some (Value.slice (some ⟨sb, so, none⟩) n c))
        go_simp
      simp only [Act.put, List.setIfInBounds_toArray, List.set_cons_zero, List.set_cons_succ]
      refine a_value (some 22) (.pointer (some ⟨o, 0, none⟩)) rfl rfl (by rfl) (fun wx hw => ?_) ?_
      · go_simp
      simp only [Act.put, List.setIfInBounds_toArray, List.set_cons_zero, List.set_cons_succ]
      refine a_call (some 23) rfl rfl (by rfl) 39 #[.pointer (some ⟨o, 0, none⟩)] (by kernel_rfl) ?_
      refine H.mono ?_
      rintro e w3 ⟨rfl, ⟨rv3, hO3⟩, hX3⟩
      clear H
      have hB3 : Below w0.heap.size w0 w3 := hBd.trans hX3.below
      have hown3 : w3.ownsRow w0.heap.size 9 1 (.slice la nl lc) nl ((txtsN P L).map Value.string) := ownsRow_keep' hownd fun b hb _ => by
        obtain ⟨D', hD'⟩ := ownsRow_row hownd b hb
        exact hX3.oth b _ _ _ hD' (by decide) (fun e => by
          have h1 : wr.drew.heap[o]? = _ := HOo.out
          rw [e, h1] at hD'
          simp only [Option.some.injEq, Obj.cells.injEq] at hD'
          exact absurd hD'.2.1 (by decide))
      refine ⟨_, rfl, hB3, ?_⟩
      simp only [Act.put, List.setIfInBounds_toArray, List.set_cons_zero, List.set_cons_succ]
      refine a_value (some 24) (.pointer (some ⟨sb, so + n0, none⟩)) rfl rfl (by rfl) (fun wx hw => ?_) ?_
      · go_simp
      simp only [Act.put, List.setIfInBounds_toArray, List.set_cons_zero, List.set_cons_succ]
      refine a_value (some 25) (.string x) rfl rfl (by rfl) (fun wx hw => ?_) ?_
      · have h0 := hsc wx hw n0 hn0P
        rw [← HX.out] at h0
        go_simp
      simp only [Act.put, List.setIfInBounds_toArray, List.set_cons_zero, List.set_cons_succ]
      have hba : Below w3.heap.size w3 (w3.alloc (.cells #[.string x] 9)) := (Below.refl _ _).alloc (Nat.le_refl _) _
      have hB4 : Below w0.heap.size w0 (w3.alloc (.cells #[.string x] 9)) := hB3.alloc hB3.size _
      refine a_alone (some 26) (.slice (some ⟨w3.heap.size, 0, none⟩) 1 1) (w3.alloc (.cells #[.string x] 9)) rfl rfl (by rfl) (by kernel_rfl) hB4 ?_
      simp only [Act.put, List.setIfInBounds_toArray, List.set_cons_zero, List.set_cons_succ]
      refine a_wp rfl (by rfl) ?_
      refine ap_one (some 27) rfl (.tmp 17) (.tmp 26) rfl w0.heap.size _ nl _ rfl x (ownsRow_keep' hown3 fun g _ hl => hba.block g hl) rfl hB3.size (by omega) ?_
      intro v6 w6 hown6 hg6
      have hB6 : Below w0.heap.size w0 w6 := hB4.trans ⟨hg6.os, hg6.tape, hg6.output, hg6.size, fun k hk => hg6.block k (by have := hB4.size; omega) (fun e => by have := (ownsRow_lt' hown3 k e.symm).2; omega)⟩
      have hO6 : OrdAt w6 B B2 r q o n C (refT D) (runO W R (refT D n0)).1 rv3 (runO W R (refT D n0)).2 := hO3.keep (fun k c' t fr h1 h2 => (hg6.block k (by have := (Array.getElem?_eq_some_iff.1 h1).1; simp; omega) (fun e => by
        obtain ⟨D', hD'⟩ := ownsRow_row hown3 k e.symm
        rw [hD'] at h1
        simp only [Option.some.injEq, Obj.cells.injEq] at h1
        exact h2 h1.2.1.symm)).trans (hba.block k (Array.getElem?_eq_some_iff.1 h1).1)) (by have := hg6.size; simp at this; omega)
      refine ⟨hB6, ?_⟩
      obtain ⟨a6, c6, rfl⟩ := own_slice hown6
      simp only [Act.put, List.setIfInBounds_toArray, List.set_cons_zero, List.set_cons_succ]
      refine a_alone (some 5) (.slice a6 (nl + 1) c6) w6 rfl rfl (by rfl) (by kernel_rfl) hB6 ?_
      simp only [Act.put, List.setIfInBounds_toArray, List.set_cons_zero, List.set_cons_succ]
      refine a_done ?_
      try simp only [Exit.then]
      have HB6 : Hid _ := hB6
      have HO6 : Hid _ := hO6
      have HW6 : Hid _ := hown6
      clear hB6 hO6 hown6 hg6 hB4 hba hown3 hB3 hO3 hX3 hownd hBd
      go_wp2
      go_roundw
      case rel =>
        refine ⟨L ++ [n0], _, rv3, _, HI2.out, HO6.out, ?_, HB6.out⟩
        rw [HL9.out, List.length_append, List.map_append, ← HNl.out]
        exact HW6.out
      case measure => simp [lenV]; omega
end Go.Proofs.Ytkbhckjpmgkgjaa
