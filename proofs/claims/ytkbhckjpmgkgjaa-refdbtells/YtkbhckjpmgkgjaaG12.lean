/- My own work: where, and what Closure and Dead tell. -/
import Derived.Test.YtkbhckjpmgkgjaaG11
import Derived.Shelf.RegionOpen
namespace Go.Proofs.Ytkbhckjpmgkgjaa
open Go.RowKit

/-- Of the first texts those of whose numbers something holds. -/
def selTo (p : Nat → Bool) (P : List ByteArray) (i : Nat) : List ByteArray := ((List.range i).filter p).map fun k => P.getD k ⟨#[]⟩
def selN (p : Nat → Bool) (P : List ByteArray) : List ByteArray := selTo p P P.length
theorem selTo_len (p : Nat → Bool) (P : List ByteArray) (i : Nat) : (selTo p P i).length ≤ i := by
  unfold selTo
  rw [List.length_map]
  have := List.length_filter_le p (List.range i)
  rwa [List.length_range] at this
theorem selTo_yes {p : Nat → Bool} {P : List ByteArray} {i : Nat} (h : p i = true) (hi : i < P.length) : selTo p P (i + 1) = selTo p P i ++ [P[i]] := by
  unfold selTo
  rw [List.range_succ, List.filter_append, List.map_append]
  simp [h, hi]
theorem selTo_no {p : Nat → Bool} {P : List ByteArray} {i : Nat} (h : p i = false) : selTo p P (i + 1) = selTo p P i := by
  unfold selTo
  rw [List.range_succ, List.filter_append, List.map_append]
  simp [h]
theorem mem_selN (p : Nat → Bool) (P : List ByteArray) (x : ByteArray) : x ∈ selN p P ↔ ∃ k, P[k]? = some x ∧ p k = true := by
  unfold selN selTo
  rw [List.mem_map]
  constructor
  · rintro ⟨k, hk, rfl⟩
    rw [List.mem_filter, List.mem_range] at hk
    exact ⟨k, by rw [List.getElem?_eq_getElem hk.1, List.getD_eq_getElem?_getD, List.getElem?_eq_getElem hk.1]; rfl, hk.2⟩
  · rintro ⟨k, h1, h2⟩
    obtain ⟨h3, h4⟩ := List.getElem?_eq_some_iff.1 h1
    refine ⟨k, List.mem_filter.2 ⟨List.mem_range.2 h3, h2⟩, ?_⟩
    rw [List.getD_eq_getElem?_getD, h1]
    rfl
/-- What where tells. -/
def WherePost (p : Nat → Bool) (P : List ByteArray) (w : World) (e : Ending) (w' : World) : Prop :=
  ∃ v, e = .returned v ∧ w'.ownsRow w.heap.size 9 1 v (selN p P).length ((selN p P).map Value.string) ∧ Below w.heap.size w w'
set_option maxRecDepth 20000 in
set_option maxHeartbeats 4000000 in
/-- where: the paths of whose numbers something holds, rising. -/
theorem where1_ok (f : FuncId) (c1 : Value) (p : Nat → Bool) (g : Nat) (P dv : List ByteArray) (E : List (Nat × Nat)) (w : World) (h : GAt w g P dv E) (hn : P.length ≤ 4096) (hef : ∀ args w, (callFunc f args).run Try.prog w = .ok (.enter f args) w)
    (hf : ∀ k, k < P.length → ∀ wx, Below w.heap.size w wx → Calls Try.prog f #[.int .i64 (k : Int), c1] wx fun e w' => e = .returned (.bool (p k)) ∧ w' = wx) :
    Calls Try.prog 30 #[.pointer (some ⟨g, 0, none⟩), .func (.func f) #[] #[c1]] w (WherePost p P w) := by
  obtain ⟨a, c, _, _, _, _, _, hrow, hS, _, _⟩ := h.ex
  obtain ⟨n, hN⟩ : ∃ n, n = P.length := ⟨_, rfl⟩
  rw [← hN] at hn hrow hf
  have q0 := (hrow.cell 0).trans (rfl : _ = some (Value.slice a n c))
  have hle := hS.le
  rw [← hN] at hle
  obtain ⟨b, off, ha, hc⟩ := hS.ex
  have HA : Hid _ := ha
  have HC : Hid (∀ wx, Below w.heap.size w wx → ∀ i (h : i < P.length), wx.cell? ⟨b, off + i, none⟩ = some (.string P[i])) := fun wx hx i hi => (hx.cell (p := ⟨b, off + i, none⟩) (World.block_lt_of_cell? _ _ (hc i hi))).trans (hc i hi)
  have HN : Hid _ := hN
  have HF : Hid _ := hf
  clear h hrow hS ha hc hN hf
  go_enter Try.func30, Try.ntmps30
  go_wp2
  go_loopw [5, 13] (fun lv iv wr => ∃ i : Nat, iv = .int .i64 i ∧ i ≤ n ∧ wr.ownsRow w.heap.size 9 1 lv (selTo p P i).length ((selTo p P i).map Value.string) ∧ Below w.heap.size w wr) (fun _ iv _ => n - (intOf iv).toNat)
  case atStart => exact ⟨0, rfl, Nat.zero_le _, World.ownsRow_nil _ _ _ _, Below.refl _ _⟩
  case round =>
    obtain ⟨i, rfl, hi, hown, hB⟩ := hrel
    have HO : Hid _ := hown
    have HB : Hid _ := hB
    by_cases hlt : i < n
    · have hil : i < P.length := by have := HN.out; omega
      obtain rfl := HA.out (by omega)
      have hcell := HC.out wr hB i hil
      obtain ⟨x, hx⟩ : ∃ x, x = P[i] := ⟨_, rfl⟩
      rw [← hx] at hcell
      have HX : Hid _ := hx
      have hlt' : (i : Int) < (n : Int) := by omega
      have H := HF.out i hlt wr hB
      clear hx
      cases hp : p i with
      | true =>
        rw [hp] at H
        have hl : (selTo p P i).length ≤ i := selTo_len p P i
        obtain ⟨la, lc, rfl⟩ := own_slice hown
        obtain ⟨nl, hnl⟩ : ∃ nl, nl = (selTo p P i).length := ⟨_, rfl⟩
        rw [← hnl] at hown hl HO ⊢
        have hba : Below wr.heap.size wr (wr.alloc (.cells #[.string x] 9)) := (Below.refl _ _).alloc (Nat.le_refl _) _
        have hoa : (wr.alloc (.cells #[.string x] 9)).ownsRow w.heap.size 9 1 (.slice la nl lc) nl ((selTo p P i).map Value.string) := ownsRow_keep' hown fun g _ hl => hba.block g hl
        have HOa : Hid _ := hoa
        have hBs := hB.size
        have HNl : Hid _ := hnl
        have HP : Hid _ := hp
        clear hoa hown hB hp hnl
        go_wp2_with (first
          | (go_at_fn f; refine H.mono ?_; rintro e w5 ⟨rfl, rfl⟩; clear H)
          | (at_builtin
             refine wpList_plain rfl fun K' hK' => ?_
             refine ap_one (some 24) rfl (.tmp 21) (.tmp 23) rfl w.heap.size _ nl _ rfl x HOa.out rfl hBs (by omega) ?_
             intro v6 w6 hown6 hg6
             refine hK' _ _ ?_
             have HO6 : Hid _ := hown6
             have HG6 : Hid _ := hg6
             clear hown6 hg6))
        go_roundw
        case rel =>
          refine ⟨i + 1, by go_num, by omega, ?_, HB.out.trans ⟨HG6.out.os, HG6.out.tape, HG6.out.output, by have := HG6.out.size; simp at this; omega, fun k hk => (HG6.out.block k (by simp; omega) (fun e => by have := (ownsRow_lt' HO.out k e.symm).2; omega)).trans (hba.block k (by omega))⟩⟩
          rw [selTo_yes HP.out hil, List.length_append, List.map_append, ← HNl.out, ← HX.out]
          exact HO6.out
        case measure => simp [intOf]; omega
      | false =>
        rw [hp] at H
        have HP : Hid _ := hp
        clear hown hB hp
        go_wp2_with (go_at_fn f; refine H.mono ?_; rintro e w5 ⟨rfl, rfl⟩; clear H)
        go_roundw
        case rel => exact ⟨i + 1, by go_num, by omega, by rw [selTo_no HP.out]; exact HO.out, HB.out⟩
        case measure => simp [intOf]; omega
    · have hlt' : ¬ (i : Int) < (n : Int) := by omega
      obtain rfl : i = n := by omega
      have HW : Hid (WherePost p P w (.returned u5) wr) := ⟨u5, rfl, by unfold selN; rw [← HN.out]; exact hown, hB⟩
      clear hown hB
      go_wp2
      go_ret
      exact HW.out
end Go.Proofs.Ytkbhckjpmgkgjaa
