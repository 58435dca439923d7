/- My own work: texts that rise, and a text's place among them. -/
import Derived.Test.YtkbhckjpmgkgjaaShG
import Derived.Test.YtkbhckjpmgkgjaaNd
import Derived.Sort.Walk0
import Derived.MapKept
namespace Go.Proofs.Ytkbhckjpmgkgjaa
open Go.RowKit Go.Shelf

instance : LawfulBEq ByteArray where
  rfl := (MapKept.bytes_beq _ _).2 rfl
  eq_of_beq h := (MapKept.bytes_beq _ _).1 h
abbrev gb (s : ByteArray) : List UInt8 := s.data.toList
theorem gb_inj {a b : ByteArray} (h : gb a = gb b) : a = b := by
  obtain ⟨x⟩ := a
  obtain ⟨y⟩ := b
  have : x = y := Array.toList_inj.1 h
  rw [this]
/-- Texts that rise. -/
def Up (P : List ByteArray) : Prop := P.Pairwise fun a b => gb a < gb b
theorem less_lt (a b : ByteArray) : Op.bytesLess a.toList b.toList = decide (gb a < gb b) := by rw [ByteArray.toList_eq, ByteArray.toList_eq, Go.Proofs.bytesLess_eq]
theorem Up.lt {P : List ByteArray} (h : Up P) {i j : Nat} (hij : i < j) (hj : j < P.length) : gb (P[i]'(by omega)) < gb P[j] := List.pairwise_iff_getElem.1 h i j (by omega) hj hij
theorem lt_irr (a : List UInt8) : ¬ a < a := List.lt_irrefl a
theorem lt_tr {a b c : List UInt8} (h : a < b) (k : b < c) : a < c := List.lt_trans h k
theorem Up.nodup {P : List ByteArray} (h : Up P) : P.Nodup := List.Pairwise.imp (fun {a b} (hab : gb a < gb b) (e : a = b) => by rw [e] at hab; exact lt_irr _ hab) h
/-- How many texts lie below one: a place that splits them. -/
theorem Up.split {P : List ByteArray} (h : Up P) (x : ByteArray) : ∃ k, k ≤ P.length ∧ (∀ t, t < k → gb (P.getD t x) < gb x) ∧ ∀ t, k ≤ t → ¬ gb (P.getD t x) < gb x := by
  induction P with
  | nil => exact ⟨0, Nat.le_refl _, fun t ht => absurd ht (Nat.not_lt_zero _), fun t _ => by simp⟩
  | cons p P ih =>
    have hc := List.pairwise_cons.1 h
    by_cases hp : gb p < gb x
    · obtain ⟨k, h1, h2, h3⟩ := ih hc.2
      refine ⟨k + 1, by simp; omega, fun t ht => ?_, fun t ht => ?_⟩
      · cases t with
        | zero => exact hp
        | succ t => exact h2 t (by omega)
      · cases t with
        | zero => omega
        | succ t => exact h3 t (by omega)
    · refine ⟨0, Nat.zero_le _, fun t ht => absurd ht (Nat.not_lt_zero _), fun t _ => ?_⟩
      cases t with
      | zero => exact hp
      | succ t =>
        show ¬ gb (P.getD t x) < gb x
        rw [List.getD_eq_getElem?_getD]
        by_cases ht : t < P.length
        · rw [List.getElem?_eq_getElem ht]
          exact fun e => hp (lt_tr (hc.1 _ (List.getElem_mem ht)) e)
        · rw [List.getElem?_eq_none (by omega)]
          exact lt_irr _
/-- What number tells. -/
def NumPost (P : List ByteArray) (x : ByteArray) (w : World) (e : Ending) (w' : World) : Prop :=
  ∃ k : Nat, e = .returned (.tuple #[.int .i64 k, .bool (decide (x ∈ P))]) ∧ (x ∈ P → P[k]? = some x) ∧ k ≤ P.length ∧ ∃ q, w' = w.drewN q
theorem search_ok (P : List ByteArray) (x : ByteArray) (a : Option Addr) (c : Nat) (w : World) (hS : StrsAt w a P c) (hs : Up P) : Calls Try.prog 47 #[.slice a P.length c, .string x] w (NumPost P x w) := by
  obtain ⟨b, off, ha, hc⟩ := hS.ex
  by_cases h0 : P.length = 0
  · have hP : P = [] := List.eq_nil_of_length_eq_zero h0
    subst hP
    refine (Any2.slices_BinarySearch_string_empty Try.laysNm226 a c x w).mono ?_
    rintro e w' ⟨rfl, rfl⟩
    exact ⟨0, rfl, (fun h => by cases h), Nat.le_refl _, 0, rfl⟩
  · obtain rfl := ha (by omega)
    obtain ⟨k, h1, h2, h3⟩ := hs.split x
    have hlen := hS.len
    unfold big at hlen
    have hk : Lib.bsGo (fun t => Op.bytesLess (P.getD t x).toList x.toList) P.length 0 P.length = k :=
      Lib.bsGo_spec _ k (fun t ht => by rw [less_lt]; exact decide_eq_true (h2 t ht)) (fun t ht => by rw [less_lt]; exact decide_eq_false (h3 t ht)) P.length 0 P.length (by omega) (Nat.zero_le _) h1
    have H := Any2.slices_BinarySearch_string Try.laysNm226 b off P.length c (fun t => P.getD t x) x w (by omega) (fun j hj => by
      rw [hc j hj, List.getD_eq_getElem?_getD, List.getElem?_eq_getElem hj]
      rfl)
    rw [hk] at H
    refine H.mono ?_
    rintro e w' ⟨rfl, q, rfl⟩
    have hmem : decide (k < P.length ∧ P.getD k x = x) = decide (x ∈ P) := by
      by_cases hx : x ∈ P
      · rw [decide_eq_true hx]
        obtain ⟨i, hi, rfl⟩ := List.getElem_of_mem hx
        have e1 : i = k := by
          by_cases h4 : i < k
          · have := h2 i h4
            rw [List.getD_eq_getElem?_getD, List.getElem?_eq_getElem hi] at this
            exact absurd this (lt_irr _)
          · by_cases h5 : k < i
            · have h6 := h3 k (Nat.le_refl _)
              rw [List.getD_eq_getElem?_getD, List.getElem?_eq_getElem (by omega)] at h6
              exact absurd (hs.lt h5 hi) h6
            · omega
        subst e1
        refine decide_eq_true ⟨hi, ?_⟩
        rw [List.getD_eq_getElem?_getD, List.getElem?_eq_getElem hi]
        rfl
      · rw [decide_eq_false hx]
        refine decide_eq_false fun h => hx ?_
        rw [List.getD_eq_getElem?_getD, List.getElem?_eq_getElem h.1] at h
        have h7 : P[k]'h.1 = x := h.2
        rw [← h7]
        exact List.getElem_mem _
    rw [hmem]
    refine ⟨k, rfl, fun hx => ?_, h1, q, rfl⟩
    rw [decide_eq_true hx] at hmem
    obtain ⟨h8, h9⟩ := of_decide_eq_true hmem
    rw [List.getD_eq_getElem?_getD, List.getElem?_eq_getElem h8] at h9
    rw [List.getElem?_eq_getElem h8]
    exact congrArg some h9
set_option maxHeartbeats 2000000 in
/-- number: a path's number, and whether there is one. -/
theorem number_ok (P : List ByteArray) (x : ByteArray) (g : Nat) (a : Option Addr) (c : Nat) (w : World) (hg : w.cell? ⟨g, 0, none⟩ = some (.slice a P.length c)) (hS : StrsAt w a P c) (hs : Up P) : Calls Try.prog 33 #[.pointer (some ⟨g, 0, none⟩), .string x] w (NumPost P x w) := by
  have H := search_ok P x a c w hS hs
  clear hS
  go_enter Try.func33, Try.ntmps33
  go_wp2_with fail
  refine H.mono ?_
  rintro e w' ⟨k, rfl, h1, h2, q, rfl⟩
  clear H
  go_wp2
  go_ret2
  exact ⟨k, rfl, h1, h2, q, rfl⟩
set_option maxRecDepth 20000 in
set_option maxHeartbeats 4000000 in
/-- knows: are all of some texts paths? -/
theorem knows_ok (P : List ByteArray) (g : Nat) (a : Option Addr) (c : Nat) (L : List ByteArray) (la : Option Addr) (lc : Nat) (w : World) (hg : w.cell? ⟨g, 0, none⟩ = some (.slice a P.length c)) (hS : StrsAt w a P c) (hs : Up P) (hL : StrsAt w la L lc) :
    Calls Try.prog 25 #[.pointer (some ⟨g, 0, none⟩), .slice la L.length lc] w fun e w' => e = .returned (.bool (L.all fun x => decide (x ∈ P))) ∧ ∃ q, w' = w.drewN q := by
  obtain ⟨b, off, ha, hc⟩ := hL.ex
  have hll := hL.le
  have hlen := hL.len
  unfold big at hlen
  have HN : Hid (∀ q x, Calls Try.prog 33 #[.pointer (some ⟨g, 0, none⟩), .string x] (w.drewN q) (NumPost P x (w.drewN q))) := fun q x => number_ok P x g a c (w.drewN q) hg ⟨hS.ex, hS.nil, hS.le, hS.cap, hS.len, hS.each⟩ hs
  have HC : Hid (∀ q i (h : i < L.length), (w.drewN q).cell? ⟨b, off + i, none⟩ = some (.string L[i])) := fun q i h => hc i h
  have HA : Hid _ := ha
  obtain ⟨R, hR⟩ : ∃ R, R = L.all fun x => decide (x ∈ P) := ⟨_, rfl⟩
  have HR : Hid _ := hR
  obtain ⟨n, hn⟩ : ∃ n, n = L.length := ⟨_, rfl⟩
  rw [← hR, ← hn]
  rw [← hn] at hll hlen
  have HL : Hid _ := hn
  clear hg hS hs hL ha hc hR hn
  go_enter Try.func25, Try.ntmps25
  go_wp2
  go_loopw [11] (fun i wr => ∃ k q : Nat, i = .int .i64 k ∧ k ≤ n ∧ wr = w.drewN q ∧ ∀ t (h : t < L.length), t < k → L[t] ∈ P) (fun i _ => n - (intOf i).toNat)
  case atStart => exact ⟨0, 0, rfl, Nat.zero_le _, rfl, fun t _ h => absurd h (Nat.not_lt_zero _)⟩
  case round =>
    obtain ⟨k, q, rfl, hk, rfl, hall⟩ := hrel
    have HAl : Hid _ := hall
    clear hall
    by_cases hlt : k < n
    · have hkl : k < L.length := by have := HL.out; omega
      obtain rfl := HA.out (by omega)
      have hcell := HC.out q k hkl
      obtain ⟨x, hx⟩ : ∃ x, x = L[k] := ⟨_, rfl⟩
      rw [← hx] at hcell
      have H := HN.out q x
      have HX : Hid _ := hx
      clear hx
      have hlt' : (k : Int) < (n : Int) := by omega
      go_wp2_with fail
      refine H.mono ?_
      rintro e w' ⟨j, rfl, h1, h2, q', hw'⟩
      clear H h1 h2
      by_cases hm : x ∈ P
      · rw [decide_eq_true hm]
        go_wp2
        go_roundw
        case rel => exact ⟨k + 1, q + q', by go_num, by omega, by simp [World.drewN, Nat.add_assoc] at hw' ⊢; try exact hw', fun t h ht => by
          by_cases e : t = k
          · subst e
            rw [← HX.out]
            exact hm
          · exact HAl.out t h (by omega)⟩
        case measure => simp [intOf]; omega
      · rw [decide_eq_false hm]
        go_wp2
        go_ret
        refine ⟨?_, q + q', by try (simp [World.drewN])⟩
        rw [HR.out]
        have : (L.all fun x => decide (x ∈ P)) = false := by
          rw [List.all_eq_false]
          exact ⟨x, by rw [HX.out]; exact List.getElem_mem _, by simp [hm]⟩
        rw [this]
        rfl
    · have hlt' : ¬ (k : Int) < (n : Int) := by omega
      go_wp2
      go_ret
      refine ⟨?_, q, rfl⟩
      rw [HR.out]
      have : (L.all fun x => decide (x ∈ P)) = true := by
        rw [List.all_eq_true]
        intro y hy
        obtain ⟨t, ht, rfl⟩ := List.getElem_of_mem hy
        exact decide_eq_true (HAl.out t ht (by have := HL.out; omega))
      rw [this]
      rfl
end Go.Proofs.Ytkbhckjpmgkgjaa
