/- The walks of maxSize, rightKind, size, entries and rightNames: what one node is by itself. -/
import Derived.Test.YtpkbfljoakodoaaDoorName
import Derived.Laws.Cover1
namespace Go.Proofs.YtpkbfljoakodoaaDoor
open Go.RowKit

theorem maxSize_ok (k : Int) (w : World) : Calls Tryd.prog 84 #[.int .i64 k] w fun e w' => e = .returned (.int .i64 (if k = 3 then 1024 else 31744)) ∧ w' = w := by
  by_cases h : k = 3
  · rw [if_pos h]
    go_enter Tryd.func84, Tryd.ntmps84
    go_wp2
    go_ret
    exact ⟨rfl, rfl⟩
  · rw [if_neg h]
    go_enter Tryd.func84, Tryd.ntmps84
    go_wp2
    go_ret
    exact ⟨rfl, rfl⟩

/-- Is a node of a kind, and has nothing that only others may have? -/
def kindB (n : Nd) : Bool :=
  if n.kind = 1 then decide (n.names.length = 0) && decide (n.kids.length = 0)
  else if n.kind = 3 then decide (n.names.length = 0) && decide (n.kids.length = 0) && !n.exec
  else if n.kind = 2 then decide (n.names.length = n.kids.length) && !n.exec && decide (n.data.size = 0) else false
set_option maxHeartbeats 2000000 in
theorem rightKind_ok (n : Nd) (w : World) (C : Array Value) (h : NodeAt w n C) : Calls Tryd.prog 82 #[.agg C] w fun e w' => e = .returned (.bool (kindB n)) ∧ Below w.heap.size w w' := by
  cases h with
  | @mk k e dt ns ks da dc na nc ka kb koff kc Cs hk hdt hn hks each =>
  have hb0 : Below w.heap.size w (w.alloc (.cells (nodeV k e da dt.size dc na ns.length nc ka ks.length kc) 26)) := (Below.refl _ _).alloc (Nat.le_refl _) _
  obtain ⟨nl, hnl⟩ : ∃ nl, nl = ns.length := ⟨_, rfl⟩
  obtain ⟨kl, hkl⟩ : ∃ kl, kl = ks.length := ⟨_, rfl⟩
  obtain ⟨dl, hdl⟩ : ∃ dl, dl = dt.size := ⟨_, rfl⟩
  have hkb : kindB (.mk k e dt ns ks) = if k = 1 then decide (nl = 0) && decide (kl = 0) else if k = 3 then decide (nl = 0) && decide (kl = 0) && !e else if k = 2 then decide (nl = kl) && !e && decide (dl = 0) else false := by
    rw [hnl, hkl, hdl]
    rfl
  rw [← hnl, ← hkl, ← hdl] at hb0 ⊢
  rw [hkb]
  clear hkb hnl hkl hdl hdt hn hks each hk
  by_cases k1 : k = 1
  · subst k1
    rw [if_pos rfl]
    by_cases a1 : nl = 0
    · subst a1
      by_cases a2 : kl = 0
      · subst a2
        go_enter Tryd.func82, Tryd.ntmps82
        go_wp2
        go_ret
        exact ⟨rfl, hb0⟩
      · have a2' : ¬ (kl : Int) = 0 := by omega
        rw [decide_eq_false a2]
        go_enter Tryd.func82, Tryd.ntmps82
        go_wp2
        go_ret
        exact ⟨by simp [*], hb0⟩
    · have a1' : ¬ (nl : Int) = 0 := by omega
      rw [decide_eq_false a1]
      go_enter Tryd.func82, Tryd.ntmps82
      go_wp2
      go_ret
      exact ⟨by simp [*], hb0⟩
  rw [if_neg k1]
  by_cases k3 : k = 3
  · subst k3
    rw [if_pos rfl]
    clear k1
    by_cases a1 : nl = 0
    · subst a1
      by_cases a2 : kl = 0
      · subst a2
        cases e with
        | true =>
          go_enter Tryd.func82, Tryd.ntmps82
          go_wp2
          go_ret
          exact ⟨rfl, hb0⟩
        | false =>
          go_enter Tryd.func82, Tryd.ntmps82
          go_wp2
          go_ret
          exact ⟨rfl, hb0⟩
      · have a2' : ¬ (kl : Int) = 0 := by omega
        rw [decide_eq_false a2]
        go_enter Tryd.func82, Tryd.ntmps82
        go_wp2
        go_ret
        exact ⟨by simp [*], hb0⟩
    · have a1' : ¬ (nl : Int) = 0 := by omega
      rw [decide_eq_false a1]
      go_enter Tryd.func82, Tryd.ntmps82
      go_wp2
      go_ret
      exact ⟨by simp [*], hb0⟩
  rw [if_neg k3]
  by_cases k2 : k = 2
  · subst k2
    rw [if_pos rfl]
    clear k1 k3
    by_cases a1 : nl = kl
    · subst a1
      rw [decide_eq_true rfl]
      cases e with
      | true =>
        go_enter Tryd.func82, Tryd.ntmps82
        go_wp2
        go_ret
        exact ⟨by simp [*], hb0⟩
      | false =>
        by_cases a3 : dl = 0
        · subst a3
          go_enter Tryd.func82, Tryd.ntmps82
          go_wp2
          go_ret
          exact ⟨by simp [*], hb0⟩
        · have a3' : ¬ (dl : Int) = 0 := by omega
          rw [decide_eq_false a3]
          go_enter Tryd.func82, Tryd.ntmps82
          go_wp2
          go_ret
          exact ⟨by simp [*], hb0⟩
    · have a1' : ¬ (nl : Int) = (kl : Int) := by omega
      rw [decide_eq_false a1]
      go_enter Tryd.func82, Tryd.ntmps82
      go_wp2
      go_ret
      exact ⟨by simp [*], hb0⟩
  rw [if_neg k2]
  go_enter Tryd.func82, Tryd.ntmps82
  go_wp2
  go_ret
  exact ⟨rfl, hb0⟩

/-- The bytes of a directory's entries. -/
def entN (ns : List ByteArray) : Nat := (ns.map fun s => s.size + 3).sum
theorem entN_take (ns : List ByteArray) (i : Nat) (h : i < ns.length) : entN (ns.take (i + 1)) = entN (ns.take i) + (ns[i].size + 3) := by
  unfold entN
  rw [List.take_add_one, List.getElem?_eq_getElem h, List.map_append, List.sum_append]
  simp
theorem entN_le (ns : List ByteArray) (i : Nat) : entN (ns.take i) ≤ entN ns := by
  have : entN ns = entN (ns.take i) + entN (ns.drop i) := by
    unfold entN
    rw [← List.sum_append, ← List.map_append, List.take_append_drop]
  omega
theorem entN_bd (ns : List ByteArray) (B : Nat) (h : ∀ s ∈ ns, s.size ≤ B) : entN ns ≤ ns.length * (B + 3) := by
  unfold entN
  induction ns with
  | nil => simp
  | cons s ns ih =>
    have h1 := h s (by simp)
    have h2 := ih (fun x hx => h x (by simp [hx]))
    simp only [List.map_cons, List.sum_cons, List.length_cons, Nat.add_mul]
    omega
theorem StrsAt.at'' {w : World} {a : Option Addr} {ns : List ByteArray} {c : Nat} (h : StrsAt w a ns c) : ∃ b off, (0 < ns.length → a = some ⟨b, off, none⟩) ∧ ∀ w', Below w.heap.size w w' → ∀ i (h : i < ns.length), w'.cell? ⟨b, off + i, none⟩ = some (.string ns[i]) := by
  obtain ⟨b, off, h1, h2⟩ := h.ex
  exact ⟨b, off, h1, fun w' hb i hi => (World.cell?_of_block (w := w) (hb.block b (World.block_lt_of_cell? _ _ (h2 i hi)))).trans (h2 i hi)⟩
set_option maxRecDepth 20000 in
set_option maxHeartbeats 2000000 in
theorem size_ok (n : Nd) (w : World) (C : Array Value) (h : NodeAt w n C) (hb : n.data.size + entN n.names ≤ 4611686018427387904) : Calls Tryd.prog 83 #[.agg C] w fun e w' => e = .returned (.int .i64 ((n.data.size + entN n.names : Nat) : Int)) ∧ Below w.heap.size w w' := by
  cases h with
  | @mk k e dt ns ks da dc na nc ka kb koff kc Cs hk hdt hn hks each =>
  have hb0 : Below w.heap.size w (w.alloc (.cells (nodeV k e da dt.size dc na ns.length nc ka ks.length kc) 26)) := (Below.refl _ _).alloc (Nat.le_refl _) _
  obtain ⟨b, off, hat, hcell⟩ := hn.at''
  have HCE : Hid _ := hcell
  have hcap := hn.cap
  have hle := hn.le
  unfold maxLen at hcap
  simp only [Nd.data, Nd.names] at hb ⊢
  clear hdt hn hks each hk hcell
  go_enter Tryd.func83, Tryd.ntmps83
  go_wp2
  generalize hwB : w.alloc (.cells (nodeV k e da dt.size dc na ns.length nc ka ks.length kc) 26) = wB at *
  go_loopw [3, 12] (fun sv iv wx => ∃ i : Nat, sv = .int .i64 ((dt.size + entN (ns.take i) : Nat) : Int) ∧ iv = .int .i64 i ∧ i ≤ ns.length ∧ Hid (Below w.heap.size w wx)) (fun _ iv _ => ns.length - (intOf iv).toNat)
  case atStart => exact ⟨0, by simp [entN], rfl, Nat.zero_le _, hb0⟩
  case round =>
    obtain ⟨i, rfl, rfl, hi, hB⟩ := hrel
    by_cases hlt : i < ns.length
    · have hlt' : (i : Int) < (ns.length : Int) := by omega
      obtain rfl := hat (by omega)
      have c1 := HCE.out wr hB.out i hlt
      have e1 := entN_take ns i hlt
      have e2 := entN_le ns (i + 1)
      obtain ⟨t, ht⟩ : ∃ t, t = ns[i] := ⟨_, rfl⟩
      rw [← ht] at c1 e1
      obtain ⟨x, hx⟩ : ∃ x, x = dt.size + entN (ns.take i) := ⟨_, rfl⟩
      have e3 : dt.size + entN (ns.take (i + 1)) = x + (t.size + 3) := by omega
      have e4 : x + (t.size + 3) ≤ 4611686018427387904 := by omega
      rw [← hx]
      have HE3 : Hid _ := e3
      clear ht hx e1 e2 e3
      go_wp2
      go_roundw
      case rel => exact ⟨i + 1, by rw [show dt.size + entN (ns.take (i + 1)) = _ from HE3.out]; go_num, by go_num, by omega, hB⟩
      case measure => simp [intOf]; omega
    · have hlt' : ¬ (i : Int) < (ns.length : Int) := by omega
      obtain rfl : i = ns.length := by omega
      have e1 : entN (ns.take ns.length) = entN ns := by rw [List.take_length]
      rw [e1]
      go_wp2
      go_ret
      exact ⟨rfl, hB.out⟩
end Go.Proofs.YtpkbfljoakodoaaDoor
