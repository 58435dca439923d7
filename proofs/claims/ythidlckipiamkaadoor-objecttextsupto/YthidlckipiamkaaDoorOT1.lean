/- My own work: infos: what may be of their paths and references. -/
import Derived.Test.YthidlckipiamkaaDoorNd
import Derived.Test.YthidlckipiamkaaDoorPSplit2
import Derived.Test.YthidlckipiamkaaDoorPRefS
import Derived.BigQuiet
namespace Go.Proofs.YthidlckipiamkaaDoor
open Go.RowKit
open S2 (bl bl_len bl_inj splitB splitV Tab NTab)

theorem below_drewN {B : Nat} {w w' : World} (h : Below B w w') (n : Nat) : Below B w (w'.drewN n) := ⟨h.os, h.tape, h.output, h.size, h.block⟩
/-- Is a text a path? -/
def isP (s : ByteArray) : Bool := splitB (bl s)
theorem splitV_err (s : ByteArray) : ∃ x y, splitV s = .tuple #[.string x, .string y, .int .i64 (if isP s then 0 else 17)] := by
  unfold isP
  cases h : splitB (bl s) with
  | true => exact ⟨_, _, S2.splitV_yes h⟩
  | false => exact ⟨_, _, S2.splitV_no h⟩
set_option maxHeartbeats 1000000 in
theorem isPath_ok (s : ByteArray) (w : World) (hs : s.size ≤ 140737488355328) (hT : Tab w) (hN : NTab w) : Calls Tryd.prog 33 #[.string s] w fun e w' => e = .returned (.bool (isP s)) ∧ Below w.heap.size w w' := by
  have H := S2.split_ok s w hs hT hN
  obtain ⟨x, y, e⟩ := splitV_err s
  rw [e] at H
  clear e hT hN
  cases h : isP s with
  | true =>
    rw [h] at H
    simp only [if_true] at H
    go_enter Tryd.func33, Tryd.ntmps33
    go_wp2_with fail
    refine H.mono ?_
    rintro e w1 ⟨rfl, hb1⟩
    clear H h
    go_wp2
    go_ret
    exact ⟨rfl, hb1⟩
  | false =>
    rw [h] at H
    simp only [Bool.false_eq_true, if_false] at H
    go_enter Tryd.func33, Tryd.ntmps33
    go_wp2_with fail
    refine H.mono ?_
    rintro e w1 ⟨rfl, hb1⟩
    clear H h
    go_wp2
    go_ret
    exact ⟨rfl, hb1⟩
set_option maxHeartbeats 1000000 in
theorem rpath_ok (s : ByteArray) (w : World) (hs : s.size ≤ 140737488355328) : Calls Tryd.prog 25 #[.string s] w fun e w' => e = .returned (.bool (isP s)) ∧ Below w.heap.size w w' := by
  have H := S2.refSplit_ok s w hs
  obtain ⟨x, y, e⟩ := splitV_err s
  rw [e] at H
  clear e
  cases h : isP s with
  | true =>
    rw [h] at H
    simp only [if_true] at H
    go_enter Tryd.func25, Tryd.ntmps25
    go_wp2_with fail
    refine H.mono ?_
    rintro e w1 ⟨rfl, hb1⟩
    clear H h
    go_wp2
    go_ret
    exact ⟨rfl, hb1⟩
  | false =>
    rw [h] at H
    simp only [Bool.false_eq_true, if_false] at H
    go_enter Tryd.func25, Tryd.ntmps25
    go_wp2_with fail
    refine H.mono ?_
    rintro e w1 ⟨rfl, hb1⟩
    clear H h
    go_wp2
    go_ret
    exact ⟨rfl, hb1⟩
theorem notPath_ok (s : ByteArray) (w : World) (hs : s.size ≤ 140737488355328) (hT : Tab w) (hN : NTab w) : Calls Tryd.prog 35 #[.string s] w fun e w' => e = .returned (.bool (!isP s)) ∧ Below w.heap.size w w' := by
  have H := isPath_ok s w hs hT hN
  clear hT hN
  go_enter Tryd.func35, Tryd.ntmps35
  go_wp2_with fail
  refine H.mono ?_
  rintro e w1 ⟨rfl, hb1⟩
  clear H
  go_wp2
  go_ret
  exact ⟨rfl, hb1⟩
set_option maxRecDepth 20000 in
set_option maxHeartbeats 2000000 in
theorem indexFunc_ok (a : Option Addr) (ns : List ByteArray) (c : Nat) (w : World) (h : StrsAt w a ns c) (hT : Tab w) (hN : NTab w) :
    Calls Tryd.prog 44 #[.slice a ns.length c, .func (.func 35) #[] #[]] w fun r w' => (∃ x : Int, r = .returned (.int .i64 x) ∧ (decide (0 ≤ x) = !ns.all isP)) ∧ Below w.heap.size w w' := by
  obtain ⟨b, o, hat, hcell⟩ := h.ex
  have hm := h.le
  have hc := h.cap
  unfold maxLen at hc
  have HEa : Hid (∀ s ∈ ns, s.size ≤ 140737488355328) := fun s hs => by have := h.each s hs; unfold big at this; omega
  have HCe : Hid (∀ wx, Below w.heap.size w wx → ∀ i (hi : i < ns.length), wx.cell? ⟨b, o + i, none⟩ = some (.string ns[i])) := fun wx hb i hi => (World.cell?_of_block (w := w) (hb.block b (World.block_lt_of_cell? w _ (hcell i hi)))).trans (hcell i hi)
  have HT : Hid (∀ wx, Below w.heap.size w wx → Tab wx ∧ NTab wx) := fun wx hb => ⟨hT.below hb hT.pos, S2.NTab.keep hN hb⟩
  obtain ⟨m, hmm⟩ : ∃ m, m = ns.length := ⟨_, rfl⟩
  have HM : Hid _ := hmm
  rw [← hmm] at hat hm ⊢
  clear hcell h hT hN hmm
  go_enter Tryd.func44, Tryd.ntmps44
  go_wp2
  go_loopw [8] (fun iv wx => ∃ i : Nat, iv = .int .i64 i ∧ i ≤ m ∧ Hid (Below w.heap.size w wx) ∧ Hid (∀ j (hj : j < ns.length), j < i → isP ns[j] = true)) (fun iv _ => m - (intOf iv).toNat)
  case atStart => exact ⟨0, rfl, Nat.zero_le _, Below.refl _ _, fun j _ hj => absurd hj (by omega)⟩
  case round =>
    obtain ⟨i, rfl, hi, HB, HZ⟩ := hrel
    by_cases hlt : i < m
    · have hlt' : (i : Int) < (m : Int) := by omega
      obtain rfl := hat (by omega)
      have hin : i < ns.length := by rw [← HM.out]; exact hlt
      have c0 := HCe.out wr HB.out i hin
      obtain ⟨s, hs⟩ : ∃ s, s = ns[i] := ⟨_, rfl⟩
      rw [← hs] at c0
      have HS : Hid _ := hs
      have hp := notPath_ok s wr (by rw [hs]; exact HEa.out _ (List.getElem_mem _)) (HT.out wr HB.out).1 (HT.out wr HB.out).2
      clear hs
      cases hx : isP s with
      | true =>
        rw [hx] at hp
        have HX : Hid _ := hx
        clear hx
        go_wp2_with fail
        refine Calls.mono hp ?_
        rintro r w2 ⟨rfl, hb2⟩
        have HB2 : Hid (Below w.heap.size w w2) := HB.out.trans (hb2.mono HB.out.size)
        clear hp hb2
        simp only [Bool.not_true]
        go_wp2
        go_roundw
        case rel => exact ⟨i + 1, by go_num, by omega, HB2, fun j hj hji => by
          rcases Nat.lt_succ_iff_lt_or_eq.1 hji with h | h
          · exact HZ.out j hj h
          · subst h; rw [← HS.out]; exact HX.out⟩
        case measure => simp [intOf]; omega
      | false =>
        rw [hx] at hp
        have HX : Hid _ := hx
        clear hx
        go_wp2_with fail
        refine Calls.mono hp ?_
        rintro r w2 ⟨rfl, hb2⟩
        have HB2 : Hid (Below w.heap.size w w2) := HB.out.trans (hb2.mono HB.out.size)
        clear hp hb2
        simp only [Bool.not_false]
        go_wp2
        go_ret
        refine ⟨⟨_, rfl, ?_⟩, HB2.out⟩
        have : ns.all isP = false := by
          cases h : ns.all isP with
          | false => rfl
          | true =>
            have := List.all_eq_true.1 h _ (List.getElem_mem hin)
            rw [← HS.out, HX.out] at this
            cases this
        rw [this]
        exact decide_eq_true (by omega)
    · have hlt' : ¬ (i : Int) < (m : Int) := by omega
      go_wp2
      go_ret
      refine ⟨⟨_, rfl, ?_⟩, HB.out⟩
      have : ns.all isP = true := List.all_eq_true.2 fun x hx => by
        obtain ⟨j, hj, rfl⟩ := List.getElem_of_mem hx
        exact HZ.out j hj (by have := HM.out; omega)
      rw [this]
      rfl
theorem containsFunc_ok (a : Option Addr) (ns : List ByteArray) (c : Nat) (w : World) (h : StrsAt w a ns c) (hT : Tab w) (hN : NTab w) :
    Calls Tryd.prog 34 #[.slice a ns.length c, .func (.func 35) #[] #[]] w fun r w' => r = .returned (.bool (!ns.all isP)) ∧ Below w.heap.size w w' := by
  have HC : Hid _ := indexFunc_ok a ns c w h hT hN
  clear h hT hN
  go_enter Tryd.func34, Tryd.ntmps34
  go_wp2_with fail
  refine Calls.mono HC.out ?_
  rintro r w2 ⟨⟨x, rfl, hx⟩, hb⟩
  clear HC
  have HX : Hid _ := hx
  clear hx
  go_wp2
  go_ret
  exact ⟨by rw [← HX.out]; rfl, hb⟩
/-- Is one text at or below another one? -/
def leT (a b : ByteArray) : Bool := Op.bytesLess a.toList b.toList || a.toList == b.toList
/-- Do references rise, and are they few enough? -/
def risR (l : List ByteArray) : Bool := (List.range l.length).all fun i => !(decide (i = 1024)) && (decide (i = 0) || !leT (l.getD i ⟨#[]⟩) (l.getD (i - 1) ⟨#[]⟩))
/-- A step of risR. -/
def risAt (l : List ByteArray) (i : Nat) : Bool := !(decide (i = 1024)) && (decide (i = 0) || !leT (l.getD i ⟨#[]⟩) (l.getD (i - 1) ⟨#[]⟩))
theorem risR_yes {l : List ByteArray} (h : ∀ j, j < l.length → risAt l j = true) : risR l = true := List.all_eq_true.2 fun i hi => h i (List.mem_range.1 hi)
theorem risR_no {l : List ByteArray} {j : Nat} (hj : j < l.length) (h : risAt l j = false) : risR l = false := by
  cases e : risR l with
  | false => rfl
  | true =>
    have := List.all_eq_true.1 e j (List.mem_range.2 hj)
    exact absurd (h.symm.trans this) (by decide)
set_option maxRecDepth 20000 in
set_option maxHeartbeats 4000000 in
theorem rightRefs_ok (a : Option Addr) (ns : List ByteArray) (c : Nat) (w : World) (h : StrsAt w a ns c) :
    Calls Tryd.prog 22 #[.slice a ns.length c] w fun r w' => r = .returned (.bool (risR ns)) ∧ Below w.heap.size w w' := by
  obtain ⟨b, o, hat, hcell⟩ := h.ex
  have hm := h.le
  have hc := h.cap
  unfold maxLen at hc
  have HCe : Hid (∀ wx, Below w.heap.size w wx → ∀ i (hi : i < ns.length), wx.cell? ⟨b, o + i, none⟩ = some (.string (ns.getD i ⟨#[]⟩))) := fun wx hb i hi => by
    have e : ns.getD i ⟨#[]⟩ = ns[i] := by simp [List.getD, hi]
    rw [e]
    exact (World.cell?_of_block (w := w) (hb.block b (World.block_lt_of_cell? w _ (hcell i hi)))).trans (hcell i hi)
  obtain ⟨m, hmm⟩ : ∃ m, m = ns.length := ⟨_, rfl⟩
  have HM : Hid _ := hmm
  rw [← hmm] at hat hm ⊢
  clear hcell h hmm
  go_enter Tryd.func22, Tryd.ntmps22
  go_wp2
  go_loopw [6] (fun iv wx => ∃ i : Nat, iv = .int .i64 i ∧ i ≤ m ∧ Hid (Below w.heap.size w wx) ∧ Hid (∀ j, j < i → risAt ns j = true)) (fun iv _ => m - (intOf iv).toNat)
  case atStart => exact ⟨0, rfl, Nat.zero_le _, Below.refl _ _, fun j hj => absurd hj (by omega)⟩
  case round =>
    obtain ⟨i, rfl, hi, HB, HZ⟩ := hrel
    by_cases hlt : i < m
    · have hlt' : (i : Int) < (m : Int) := by omega
      obtain rfl := hat (by omega)
      have hin : i < ns.length := by rw [← HM.out]; exact hlt
      have HNo : Hid (risAt ns i = false → risR ns = false) := fun h => risR_no hin h
      have HYe : Hid (risAt ns i = true → ∀ j, j < i + 1 → risAt ns j = true) := fun h j hj => by
        rcases Nat.lt_succ_iff_lt_or_eq.1 hj with h1 | h1
        · exact HZ.out j h1
        · rw [h1]; exact h
      have HR : Hid _ := risAt.eq_1 ns i
      by_cases h4 : i = 1024
      · have h4' : ((i : Int) == 1024) = true := by simp [h4]
        have e : risAt ns i = false := by rw [HR.out, decide_eq_true h4]; rfl
        have HE : Hid (risR ns = false) := HNo.out e
        clear h4 e HR
        go_wp2
        go_quiet (fail)
        go_wp2
        go_ret
        exact ⟨by rw [HE.out]; rfl, below_drewN HB.out _⟩
      · have h4' : ((i : Int) == 1024) = false := by simp; omega
        have h4'' : decide (i = 1024) = false := decide_eq_false h4
        by_cases h0 : i = 0
        · subst h0
          have e : risAt ns 0 = true := by rw [HR.out]; simp
          have HY : Hid _ := HYe.out e
          clear e HR h4 h4''
          go_wp2
          go_quiet (fail)
          go_wp2
          go_roundw
          case rel => exact ⟨1, by go_num, by omega, below_drewN HB.out _, HY.out⟩
          case measure => simp [intOf]; omega
        · have h0' : (0 : Int) < (i : Int) := by omega
          have h0d : decide (0 < i) = true := decide_eq_true (by omega)
          have h0'' : decide (i = 0) = false := decide_eq_false h0
          obtain ⟨k, hk0⟩ : ∃ k, k = i - 1 := ⟨_, rfl⟩
          have hk : (i : Int) - 1 = (k : Int) := by omega
          have hlk : k < ns.length := by omega
          have hlk' : (k : Int) < (m : Int) := by omega
          have hwk : IntKind.i64.wrap (k : Int) = k := by rw [IntKind.wrap_i64]; omega
          have c1 := HCe.out wr HB.out i hin
          have c2 := HCe.out wr HB.out k hlk
          rw [← hk0] at HR
          have hR2 := HR.out
          rw [h4'', h0''] at hR2
          obtain ⟨x, hx⟩ : ∃ x, x = ns.getD i ⟨#[]⟩ := ⟨_, rfl⟩
          obtain ⟨y, hy⟩ : ∃ y, y = ns.getD k ⟨#[]⟩ := ⟨_, rfl⟩
          rw [← hx, ← hy] at hR2
          rw [← hx] at c1
          rw [← hy] at c2
          have HR2 : Hid _ := hR2
          clear hR2 HR hx hy hk0 h4 h4'' h0''
          cases hl : leT x y with
          | true =>
            have hE : risR ns = false := HNo.out (by rw [HR2.out, hl]; rfl)
            have HE : Hid _ := hE
            unfold leT at hl
            clear hE
            go_wp2
            go_quiet (fail)
            go_wp2
            go_ret
            exact ⟨by rw [HE.out]; rfl, below_drewN HB.out _⟩
          | false =>
            have HY : Hid _ := HYe.out (by rw [HR2.out, hl]; rfl)
            unfold leT at hl
            go_wp2
            go_quiet (fail)
            go_wp2
            go_roundw
            case rel => exact ⟨i + 1, by go_num, by omega, below_drewN HB.out _, HY.out⟩
            case measure => simp [intOf]; omega
    · have hlt' : ¬ (i : Int) < (m : Int) := by omega
      have HE : Hid (risR ns = true) := risR_yes fun j hj => HZ.out j (by have := HM.out; omega)
      go_wp2
      go_ret
      exact ⟨by rw [HE.out]; rfl, HB.out⟩
end Go.Proofs.YthidlckipiamkaaDoor
