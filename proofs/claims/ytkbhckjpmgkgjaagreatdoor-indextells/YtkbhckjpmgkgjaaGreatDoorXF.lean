/- My own work: the law IndexCounts. My own work: a version that came in, opened. My own work: the table of tens out of the row's list; what the law VersionBack is handed, opened. My own work: packages that came in, opened. My own work: how much what comes in may hold, in the second form. My own work: packages that came in, opened, in the second form. -/
import Derived.Test.YtkbhckjpmgkgjaaGreatDoorXE
import Derived.Test.YtkbhckjpmgkgjaaGreatDoorDag2
import Derived.Test.YtkbhckjpmgkgjaaGreatDoorV6
import Derived.ProofKit
import Derived.OpenShut
import Derived.ShutString
import Derived.ChangeOld
import Derived.SizedLaws
import Derived.Deep.DeepHandedRow
import Derived.Deep.Slices
import Derived.Deep.Strs
import Derived.Deep.Grids
import Derived.Lib.LaidTab
import Derived.Test.YtkbhckjpmgkgjaaGreatDoorV11
import Derived.LaidLaws
import Derived.Stop.LaidErr
import Derived.Test.YtkbhckjpmgkgjaaGreatDoorRows
import Derived.Test.YtkbhckjpmgkgjaaGreatDoorXD
namespace Go.Proofs.YtkbhckjpmgkgjaaGreatDoor
open Go.RowKit

theorem packs_of {wr : World} {B : Nat} {D : List PV} {ov : Value} (h : wr.ownsRow B 44 3 ov D.length (flatD D)) (hn : ∀ d ∈ D, NeedsIn wr d.2 d.1.nd) : PacksIn wr ov (D.map (·.1)) := by
  have h' := h
  have hl : (D.map (·.1)).length = D.length := List.length_map _
  obtain ⟨_, ⟨rfl, h0⟩ | ⟨g, cap, cur, rfl, _, hr, hc, _⟩⟩ := h
  · exact ⟨none, 0, 0, 0, by rw [hl, h0], by omega, fun h => absurd h (by omega), fun _ => rfl, fun i hi => absurd hi (by omega)⟩
  · refine ⟨some ⟨g, 0, none⟩, g, 0, cap, by rw [hl], by rw [hl]; exact hc, fun _ => ⟨rfl, (Array.getElem?_eq_some_iff.1 hr).1⟩, (fun h => by cases h), fun i hi => ?_⟩
    have hiD : i < D.length := by rw [hl] at hi; exact hi
    refine ⟨D[i].2, fun j u hj => ?_, ?_⟩
    · have hj3 : j < 3 := (List.getElem?_eq_some_iff.1 hj).1
      rw [List.getElem_map] at hj
      rw [Nat.zero_add, h'.cellAt (i * 3 + j) (by omega), flatD_at D i hiD j hj3]
      exact hj
    · rw [List.getElem_map]
      exact hn _ (List.getElem_mem hiD)
/-- One package more, whose needs lie elsewhere. -/
theorem twice_packs {w w8 w9 : World} {D : List PV} {ov ov' : Value} {p : Pak} {nv : Value} (h : OwR w w8 D ov) (hn : NeedsIn w9 nv p.nd) (ho : w9.ownsRow w.heap.size 44 3 ov' (D.length + 1) (flatD D ++ encP p nv)) (hg : w8.grownBy w9 ov.ownBlock) : PacksIn w9 ov' (D.map (·.1) ++ [p]) := by
  have hrow := ownsRow_row h.own
  have e : D.map (·.1) ++ [p] = (D ++ [(p, nv)]).map (·.1) := by rw [List.map_append]; rfl
  rw [e]
  refine packs_of (B := w.heap.size) (by rw [List.length_append, flatD_snoc]; exact ho) fun d hd => ?_
  rcases List.mem_append.1 hd with hd | hd
  · have hv := h.nds d hd
    refine needs_own (B := w.heap.size) (own_same hv fun k hk => hg.block k (own_block hv k hk).2 fun e => ?_)
    obtain ⟨C, hC⟩ := ownsRow_row hv k hk
    obtain ⟨E, hE⟩ := hrow k e.symm
    rw [hC] at hE
    simp at hE
  · rw [List.mem_singleton.1 hd]; exact hn
theorem own_set {w : World} {B s n : Nat} {e : TypeId} {g cap : Nat} {xs : List Value} (h : w.ownsRow B e s (.slice (some ⟨g, 0, none⟩) n cap) n xs) (k : Nat) (x : Value) : (w.setCell ⟨g, k, none⟩ x).ownsRow B e s (.slice (some ⟨g, 0, none⟩) n cap) n (xs.set k x) := by
  obtain ⟨hl, ⟨h1, _⟩ | ⟨g', cap', cur, h1, hb, hr, hnc, hcm, hsz, htk⟩⟩ := h
  · cases h1
  · simp only [Value.slice.injEq, Option.some.injEq, Addr.mk.injEq, and_true, true_and] at h1
    obtain ⟨rfl, rfl⟩ := h1
    refine ⟨by rw [List.length_set]; exact hl, Or.inr ⟨g, cap, cur.setIfInBounds k x, rfl, hb, Row.setCell hr x, hnc, hcm, by rw [Array.size_setIfInBounds]; exact hsz, ?_⟩⟩
    rw [← htk, Array.toList_setIfInBounds, List.take_set]
theorem flatD_set : ∀ (D : List PV) (n : Nat) (hn : n < D.length) (nd : List Ned) (v : Value), flatD (D.set n (⟨D[n].1.nm, D[n].1.vr, nd⟩, v)) = (flatD D).set (n * 3 + 2) v
  | [], n, hn, _, _ => absurd hn (by simp)
  | d :: r, 0, _, nd, v => rfl
  | d :: r, n + 1, hn, nd, v => by
    have hn' : n < r.length := by simpa using hn
    show encP d.1 d.2 ++ flatD (r.set n (⟨r[n].1.nm, r[n].1.vr, nd⟩, v)) = (encP d.1 d.2 ++ flatD r).set ((n + 1) * 3 + 2) v
    rw [flatD_set r n hn' nd v, List.set_append_right _ _ (by show 3 ≤ _; omega)]
    show _ = encP d.1 d.2 ++ (flatD r).set ((n + 1) * 3 + 2 - 3) v
    rw [show (n + 1) * 3 + 2 - 3 = n * 3 + 2 by omega]
/-- One package's needs are more. -/
theorem again_packs {w w8 w6 : World} {D : List PV} {go oc : Nat} (h : OwR w w8 D (.slice (some ⟨go, 0, none⟩) D.length oc)) {n : Nat} (hn : n < D.length) {wa : World} (hba : Below w8.heap.size w8 wa) {nd : List Ned} {v6 : Value} (h6 : w6.ownsRow w.heap.size 61 2 v6 nd.length (flatN nd)) (hg : wa.grownBy w6 (D[n].2).ownBlock) :
    PacksIn (w6.setCell ⟨go, n * 3 + 2, none⟩ v6) (.slice (some ⟨go, 0, none⟩) D.length oc) ((D.map (·.1)).set n ⟨D[n].1.nm, D[n].1.vr, nd⟩) ∧ Below w.heap.size w (w6.setCell ⟨go, n * 3 + 2, none⟩ v6) := by
  have hown := h.own
  have hrow := ownsRow_row hown go rfl
  have hgo := own_block hown go rfl
  have hrow6 : ∀ k, v6.ownBlock = some k → k ≠ go := fun k hk e => by
    obtain ⟨C, hC⟩ := ownsRow_row h6 k hk
    have hnn := ownsRow_row (h.nds D[n] (List.getElem_mem hn))
    obtain ⟨E, hE⟩ := hrow
    have hE6 : w6.heap[go]? = w8.heap[go]? := (hg.block go (Nat.lt_of_lt_of_le hgo.2 hba.size) fun e2 => by
      obtain ⟨G, hG⟩ := hnn go e2.symm
      rw [hE] at hG
      simp at hG).trans (hba.block go hgo.2)
    rw [e, hE6, hE] at hC
    simp at hC
  have hown6 : w6.ownsRow w.heap.size 44 3 (.slice (some ⟨go, 0, none⟩) D.length oc) D.length (flatD D) := own_same hown fun k hk => by
    have : k = go := by simpa [Value.ownBlock] using hk.symm
    subst this
    refine (hg.block k (Nat.lt_of_lt_of_le hgo.2 hba.size) fun e2 => ?_).trans (hba.block k hgo.2)
    obtain ⟨G, hG⟩ := ownsRow_row (h.nds D[n] (List.getElem_mem hn)) k e2.symm
    obtain ⟨E, hE⟩ := hrow
    rw [hE] at hG
    simp at hG
  have hset := own_set hown6 (n * 3 + 2) v6
  rw [← flatD_set D n hn nd v6] at hset
  have hmap : (D.map (·.1)).set n ⟨D[n].1.nm, D[n].1.vr, nd⟩ = (D.set n (⟨D[n].1.nm, D[n].1.vr, nd⟩, v6)).map (·.1) := by rw [List.map_set]
  have hlen : (D.set n (⟨D[n].1.nm, D[n].1.vr, nd⟩, v6)).length = D.length := List.length_set
  have h68 : Below w.heap.size w8 w6 := (hba.mono h.old.size).trans (below_own' hg (Nat.le_trans h.old.size hba.size) fun k hk => (own_block (h.nds D[n] (List.getElem_mem hn)) k hk).1)
  refine ⟨?_, (h.old.trans h68).trans (below_set hgo.1 _ _)⟩
  rw [hmap]
  refine packs_of (B := w.heap.size) (by rw [hlen]; exact hset) fun d hd => ?_
  obtain ⟨j, hj, rfl⟩ := List.getElem_of_mem hd
  rw [hlen] at hj
  by_cases hjn : j = n
  · subst hjn
    rw [List.getElem_set_self]
    exact needs_own (B := w.heap.size) (own_same h6 fun k hk => Below.heap_setCell _ _ _ _ (by show k ≠ go; exact hrow6 k hk))
  · rw [List.getElem_set_ne (fun e => hjn e.symm)]
    have hv := h.nds D[j] (List.getElem_mem hj)
    refine needs_own (B := w.heap.size) (own_same hv fun k hk => ?_)
    have hkgo : k ≠ go := fun e => by
      obtain ⟨C, hC⟩ := ownsRow_row hv k hk
      obtain ⟨E, hE⟩ := hrow
      rw [e, hE] at hC
      simp at hC
    refine (Below.heap_setCell _ _ _ _ (by show k ≠ go; exact hkgo)).trans ((hg.block k (Nat.lt_of_lt_of_le (own_block hv k hk).2 hba.size) fun e2 => ?_).trans (hba.block k (own_block hv k hk).2))
    have hp := List.pairwise_iff_getElem.1 h.sep
    rcases Nat.lt_or_gt_of_ne hjn with hl | hl
    · exact hp j n hj hn hl k k hk e2.symm rfl
    · exact hp n j hn hj hl k k e2.symm hk rfl
theorem two_nd (w : World) : (Instr.buildSlice 42 2 #[(0, .agg #[.string ⟨#[110, 111, 110, 101]⟩, .string ⟨#[42]⟩]), (1, .agg #[.string ⟨#[110, 111, 110, 101]⟩, .string ⟨#[42]⟩])]).run Tryz.prog w = .ok (.slice (some ⟨w.heap.size, 0, none⟩) 2 2) (w.alloc (.cells #[.string ⟨#[110, 111, 110, 101]⟩, .string ⟨#[42]⟩, .string ⟨#[110, 111, 110, 101]⟩, .string ⟨#[42]⟩] 61)) := by
  obtain ⟨i0, hi, hz0, hz1, _⟩ := info_parts infoNdz
  refine run_buildSlice w 42 61 2 _ _ i0 _ Tryz.underlying42 hi hz0 (by rw [hz1]; decide) (by rw [hz1]; decide) ?_
  rw [hz1]
  kernel_rfl
theorem one_in (w : World) (nm vr : ByteArray) : PacksIn (w.alloc (.cells #[.string nm, .string vr, .slice none 0 0] 44)) (.slice (some ⟨w.heap.size, 0, none⟩) 1 1) [⟨nm, vr, []⟩] := by
  have hr : Row (w.alloc (.cells #[.string nm, .string vr, .slice none 0 0] 44)) w.heap.size #[.string nm, .string vr, .slice none 0 0] 44 := Row.new _ _ _
  refine ⟨some ⟨w.heap.size, 0, none⟩, w.heap.size, 0, 1, rfl, Nat.le_refl _, fun _ => ⟨rfl, hr.lt⟩, (fun h => nomatch h), fun i hi => ?_⟩
  have hi0 : i = 0 := by simpa using hi
  subst hi0
  refine ⟨.slice none 0 0, fun j u hj => ?_, ⟨none, 0, 0, 0, rfl, Nat.le_refl _, fun h => absurd h (by simp), fun _ => rfl, fun i hi => absurd hi (by simp)⟩⟩
  rw [Nat.zero_mul, Nat.zero_add, hr.cell j, ← hj]
  exact List.getElem?_toArray
/-- The row of packages while one's needs grow. -/
theorem again_row {w w8 w6 : World} {D : List PV} {go oc : Nat} (h : OwR w w8 D (.slice (some ⟨go, 0, none⟩) D.length oc)) {n : Nat} (hn : n < D.length) {wa : World} (hba : Below w8.heap.size w8 wa) (hg : wa.grownBy w6 (D[n].2).ownBlock) :
    w8.cell? ⟨go, n * 3 + 2, none⟩ = some D[n].2 ∧ w6.cell? ⟨go, n * 3 + 2, none⟩ = some D[n].2 ∧ w6.frozen? ⟨go, n * 3 + 2, none⟩ = false ∧ ∀ v, (w6.setCell ⟨go, n * 3 + 2, none⟩ v).cell? ⟨go, n * 3 + 2, none⟩ = some v := by
  have hown := h.own
  have hgo := own_block hown go rfl
  obtain ⟨C, hC⟩ := ownsRow_row hown go rfl
  have hc8 : w8.cell? ⟨go, n * 3 + 2, none⟩ = some D[n].2 := by
    rw [hown.cellAt (n * 3 + 2) (by omega), flatD_at D n hn 2 (by omega)]
    rfl
  have hr8 : Row w8 go C 44 := hC
  have hlt : n * 3 + 2 < C.size := by
    have e := hr8.cell (n * 3 + 2)
    rw [hc8] at e
    exact (Array.getElem?_eq_some_iff.1 e.symm).1
  have hr6 : Row w6 go C 44 := ((hg.block go (Nat.lt_of_lt_of_le hgo.2 hba.size) fun e2 => by
    obtain ⟨G, hG⟩ := ownsRow_row (h.nds D[n] (List.getElem_mem hn)) go e2.symm
    rw [hC] at hG
    simp at hG).trans (hba.block go hgo.2)).trans hC
  refine ⟨hc8, ?_, hr6.frozen _, fun v => ?_⟩
  · rw [hr6.cell, ← hr8.cell, hc8]
  · rw [(hr6.setCell (i := n * 3 + 2) v).cell]
    simp [hlt]
/-- One package's needs are two more, in this program's words. -/
theorem again_all {L : List Pak} {w w8 w6 wa : World} {D : List PV} {go oc j : Nat} {v6 : Value} (h : OwR w w8 D (.slice (some ⟨go, 0, none⟩) D.length oc)) (hD : D.map (·.1) = L) (hj : j < L.length) (hjD : j < D.length) (hba : Below w8.heap.size w8 wa) (h6 : w6.ownsRow w.heap.size 61 2 v6 (L[j].nd.length + 2) (flatN L[j].nd ++ flatN [noneN, noneN])) (hg : wa.grownBy w6 (D[j].2).ownBlock) :
    PacksIn (w6.setCell ⟨go, j * 3 + 2, none⟩ v6) (.slice (some ⟨go, 0, none⟩) D.length oc) (L.set j ⟨L[j].nm, L[j].vr, L[j].nd ++ [noneN, noneN]⟩) ∧ Below w.heap.size w (w6.setCell ⟨go, j * 3 + 2, none⟩ v6) := by
  subst hD
  simp only [List.getElem_map] at h6 ⊢
  exact again_packs h hjD hba (by rw [List.length_append, flatN_app]; exact h6) hg
theorem two_one : ∀ u ∈ flatN [noneN, noneN], u.oneCell' = true := fun u hu => List.all_eq_true.1 (show (flatN [noneN, noneN]).all (·.oneCell') = true by kernel_rfl) u hu
theorem fit_snoc {L : List Pak} {p : Pak} (h : FitP L) (hp : p ∈ L) : FitP (L ++ [p]) := fun q hq => by
  rcases List.mem_append.1 hq with hq | hq
  · exact h q hq
  · rw [List.mem_singleton.1 hq]; exact h p hp
theorem fit_set {L : List Pak} {j : Nat} (h : FitP L) (hj : j < L.length) : FitP (L.set j ⟨L[j].nm, L[j].vr, L[j].nd ++ [noneN, noneN]⟩) := fun q hq => by
  have h0 := h L[j] (List.getElem_mem hj)
  rcases List.mem_or_eq_of_mem_set hq with hq | rfl
  · exact h q hq
  · refine ⟨h0.1, h0.2.1, fun n hn => ?_⟩
    rcases List.mem_append.1 hn with hn | hn
    · exact h0.2.2 n hn
    · simp at hn
      rw [hn]
      exact ⟨by show 4 ≤ _; omega, by show 1 ≤ _; omega⟩
theorem own_cell {w w8 : World} {D : List PV} {ov : Value} {go : Nat} (h : OwR w w8 D ov) (he : ov.ownBlock = some go) {n : Nat} (hn : n < D.length) : ∃ oc, ov = .slice (some ⟨go, 0, none⟩) D.length oc ∧ w8.cell? ⟨go, n * 3 + 2, none⟩ = some D[n].2 := by
  have hown := h.own
  obtain ⟨_, ⟨rfl, h0⟩ | ⟨g, cap, cur, rfl, _⟩⟩ := h.own
  · cases he
  · simp only [Value.ownBlock, Option.some.injEq] at he
    subst he
    exact ⟨cap, rfl, by rw [hown.cellAt (n * 3 + 2) (by omega), flatD_at D n hn 2 (by omega)]; rfl⟩
theorem own_some {w w8 : World} {D : List PV} {ov : Value} (h : OwR w w8 D ov) (hn : 0 < D.length) : ∃ go, ov.ownBlock = some go := by
  obtain ⟨_, ⟨rfl, h0⟩ | ⟨g, cap, cur, rfl, _⟩⟩ := h.own
  · omega
  · exact ⟨g, rfl⟩
/-- What holds while the names are gathered. -/
structure CnR (w wr : World) (L : List Pak) (i : Nat) (S : List ByteArray) (sv : Value) : Prop where
  own : wr.ownsRow w.heap.size 9 1 sv S.length (S.map Value.string)
  nd : S.Nodup
  mem : ∀ s, s ∈ S ↔ ∃ p ∈ L.take i, p.nm = s
  old : Below w.heap.size w wr
theorem CnR.next {w wr w' : World} {L : List Pak} {i : Nat} {S : List ByteArray} {sv : Value} (h : CnR w wr L i S sv) (hb : Below wr.heap.size wr w') : CnR w w' L i S sv :=
  ⟨own_below h.own hb, h.nd, h.mem, h.old.trans (hb.mono h.old.size)⟩
theorem CnR.skip {w wr : World} {L : List Pak} {i : Nat} {S : List ByteArray} {sv : Value} (h : CnR w wr L i S sv) (hi : i < L.length) (hin : L[i].nm ∈ S) : CnR w wr L (i + 1) S sv :=
  ⟨h.own, h.nd, fun s => by
    rw [h.mem s, List.take_succ_eq_append_getElem hi]
    constructor
    · rintro ⟨p, hp, he⟩; exact ⟨p, List.mem_append_left _ hp, he⟩
    · rintro ⟨p, hp, he⟩
      rcases List.mem_append.1 hp with hp | hp
      · exact ⟨p, hp, he⟩
      · rw [List.mem_singleton.1 hp] at he
        rw [← he]
        exact (h.mem _).1 hin, h.old⟩
theorem CnR.more {w wr w' : World} {L : List Pak} {i : Nat} {S : List ByteArray} {sv sv' : Value} {x : ByteArray} (h : CnR w wr L i S sv) (hi : i < L.length) (hx : x = L[i].nm) (hin : x ∉ S) (ho : w'.ownsRow w.heap.size 9 1 sv' (S.length + 1) (S.map Value.string ++ [.string x])) (hb : Below w.heap.size w w') : CnR w w' L (i + 1) (S ++ [x]) sv' :=
  ⟨by rw [List.length_append, List.map_append]; exact ho, by
    rw [List.nodup_append]
    exact ⟨h.nd, List.nodup_cons.2 ⟨List.not_mem_nil, List.nodup_nil⟩, fun a ha b hb => by
      rw [List.mem_singleton.1 hb]
      exact fun e => hin (by rw [← e]; exact ha)⟩, fun s => by
    rw [List.mem_append, h.mem s, List.take_succ_eq_append_getElem hi, List.mem_singleton]
    constructor
    · rintro (⟨p, hp, he⟩ | he)
      · exact ⟨p, List.mem_append_left _ hp, he⟩
      · exact ⟨L[i], List.mem_append_right _ (List.mem_singleton.2 rfl), by rw [he, hx]⟩
    · rintro ⟨p, hp, he⟩
      rcases List.mem_append.1 hp with hp | hp
      · exact Or.inl ⟨p, hp, he⟩
      · rw [List.mem_singleton.1 hp] at he
        exact Or.inr (by rw [hx, he]), hb⟩
/-- Told of the first ones: none is it. -/
def AllNe (b : Bool) (l : List ByteArray) (x : ByteArray) : Prop := b = true ↔ ∀ s ∈ l, s ≠ x
theorem cntN_le (L : List Pak) (s : ByteArray) : cntN L s ≤ L.length := verOf_len L s
end Go.Proofs.YtkbhckjpmgkgjaaGreatDoor
namespace Go.Proofs.YtkbhckjpmgkgjaaGreatDoor
open Go.ChangeShapes Go.WideShapes Go.ChangeAt Go.RowKit Go.Deep

theorem own : ownKnob Tryz.prog.godebug = none := by kernel_rfl
theorem laidOut : laidOutB Tryz.prog = true := by kernel_rfl
theorem cellsVe : Tryz.prog.cellsOf 112 = 6 := by kernel_rfl
theorem cellsN4 : Tryz.prog.cellsOf 102 = 4 := by kernel_rfl
theorem cells3 : Tryz.prog.cellsOf 3 = 1 := by kernel_rfl
theorem cells9v : Tryz.prog.cellsOf 9 = 1 := by kernel_rfl
theorem len6 {α : Type} {l : List α} (h : l.length = 6) : ∃ a b c d e f, l = [a, b, c, d, e, f] := by
  match l, h with
  | [a, b, c, d, e, f], _ => exact ⟨a, b, c, d, e, f, rfl⟩
theorem len3 {α : Type} {l : List α} (h : l.length = 3) : ∃ a b c, l = [a, b, c] := by
  match l, h with
  | [a, b, c], _ => exact ⟨a, b, c, rfl⟩
theorem len4v {α : Type} {l : List α} (h : l.length = 4) : ∃ a b c d, l = [a, b, c, d] := by
  match l, h with
  | [a, b, c, d], _ => exact ⟨a, b, c, d, rfl⟩
/-- A number that an int may be. -/
def I64 (n : Int) : Prop := -9223372036854775808 ≤ n ∧ n ≤ 9223372036854775807
structure Fits (v : Ver) : Prop where
  n0 : I64 v.n0
  n1 : I64 v.n1
  n2 : I64 v.n2
  n3 : I64 v.n3
  cnt : I64 v.cnt
  tag : v.tag.size ≤ 140737488351232
theorem wf64 {z : Int} (h : Lit.wf (.int .i64 z) = true) : I64 z := by
  simp only [Lit.wf, IntKind.min, IntKind.max, IntKind.signed, IntKind.bits, Bool.and_eq_true] at h
  simp at h
  exact ⟨by omega, by omega⟩
variable {H : Type} {enc : TypeId × Value → H} {W : World}
theorem open_n4 {fuel : Nat} {cs : List Value} {x : DataW H × List MemPlace} (h : DataW.trod enc Tryz.prog W 0 (fun _ => true) true fuel 102 cs = some x) (hl : cs.length = 4) : ∃ a b c d : Int, cs = [.int .i64 a, .int .i64 b, .int .i64 c, .int .i64 d] ∧ I64 a ∧ I64 b ∧ I64 c ∧ I64 d := by
  obtain ⟨xs, m, _, _, _, hxl, hall⟩ := DataW.trod_array Tryz.underlying102 h
  have hz : ∀ i, i < 4 → ∃ z : Int, cs[i]? = some (.int .i64 z) ∧ I64 z := fun i hi => by
    have h1 := hall i hi
    rw [cells3, Nat.mul_one] at h1
    have hlt : i < xs.length := by omega
    rw [List.getElem?_eq_getElem hlt] at h1
    obtain ⟨z, hcz, _, hwf⟩ := DataW.trod_int Tryz.underlying3 h1
    have e := congrArg (·[0]?) hcz
    exact ⟨z, by simpa [Value.cells, List.getElem?_take, List.getElem?_drop] using e, wf64 hwf⟩
  obtain ⟨v0, v1, v2, v3, rfl⟩ := len4v hl
  obtain ⟨a, ha, fa⟩ := hz 0 (by omega)
  obtain ⟨b, hb, fb⟩ := hz 1 (by omega)
  obtain ⟨c, hc, fc⟩ := hz 2 (by omega)
  obtain ⟨d, hd, fd⟩ := hz 3 (by omega)
  simp at ha hb hc hd
  subst ha hb hc hd
  exact ⟨a, b, c, d, rfl, fa, fb, fc, fd⟩
theorem open_ver {fuel : Nat} {cs : List Value} {x : DataW H × List MemPlace} (h : DataW.trod enc Tryz.prog W 0 (fun _ => true) true fuel 112 cs = some x) (hw : ∀ n ∈ x.1.weights Tryz.prog 112, n ≤ reachBytes) : ∃ v, cs.toArray = verC v ∧ Fits v := by
  obtain ⟨xs, m, _, hx, hl, hxl, hall⟩ := DataW.trod_struct Tryz.underlying112 h
  rw [cellsVe] at hl
  have hxl' : xs.length = 3 := by rw [hxl]; rfl
  obtain ⟨v0, v1, v2, v3, v4, v5, rfl⟩ := len6 hl
  obtain ⟨y0, y1, y2, rfl⟩ := len3 hxl'
  have g0 := hall 0 _ rfl
  have g1 := hall 1 _ rfl
  have g2 := hall 2 _ rfl
  simp [cells3, cells9v, cellsN4] at g0 g1 g2
  have hwe : ∀ n ∈ DataW.weightsEach Tryz.prog [102, 3, 9] [y0.1, y1.1, y2.1], n ≤ reachBytes := by
    intro n hn
    refine hw n ?_
    rw [hx]
    simp only [DataW.weights, Tryz.underlying112]
    exact hn
  obtain ⟨a, b, c, d, e0, f0, f1, f2, f3⟩ := open_n4 g0 rfl
  obtain ⟨z, e1, _, hwf⟩ := DataW.trod_int Tryz.underlying3 g1
  obtain ⟨s, e2, rfl, _⟩ := DataW.trod_string Tryz.underlying9 g2
  simp at e0 e1 e2
  obtain ⟨rfl, rfl, rfl, rfl⟩ := e0
  subst e1 e2
  refine ⟨⟨a, b, c, d, z, s⟩, rfl, f0, f1, f2, f3, wf64 hwf, ?_⟩
  have h := hwe s.data.toList.length (DataW.weights_mem_each (j := 2) rfl rfl _ (by simp [DataW.weights]))
  simp only [reachBytes, Array.length_toList] at h
  exact h
end Go.Proofs.YtkbhckjpmgkgjaaGreatDoor
namespace Go.Proofs.YtkbhckjpmgkgjaaGreatDoor
open Go.ChangeShapes Go.WideShapes Go.ChangeAt Go.RowKit Go.Deep

theorem pow_eq : (Rows.laid_internal_strconv_uint64pow10 : DataW Unit) = Lib.tabData .u64 Lib.pow10Tab := by kernel_rfl
theorem gPwT : (Tryz.prog.globals[2]?).map (·.type) = some 260 := by kernel_rfl
theorem pw_of {rest : List (String × DataW Unit)} {W : World} (h : laidMet Tryz.prog (("internal/strconv.uint64pow10", Rows.laid_internal_strconv_uint64pow10) :: rest) W) : Pw W := by
  rw [pow_eq] at h
  exact Lib.tabIs_of_head gPw gPwT Tryz.underlying260 Tryz.underlying203 (by kernel_rfl) (by kernel_rfl) h
theorem len11 {α : Type} {l : List α} (h : l.length = 11) : ∃ a b c d e f g i j k m, l = [a, b, c, d, e, f, g, i, j, k, m] := by
  match l, h with
  | [a, b, c, d, e, f, g, i, j, k, m], _ => exact ⟨a, b, c, d, e, f, g, i, j, k, m, rfl⟩
variable {H : Type} {enc : TypeId × Value → H} {W : World}
end Go.Proofs.YtkbhckjpmgkgjaaGreatDoor
namespace Go.Proofs.YtkbhckjpmgkgjaaGreatDoor
open Go.ChangeShapes Go.WideShapes Go.ChangeAt Go.RowKit Go.Deep

theorem cellsNd : Tryz.prog.cellsOf 61 = 2 := by kernel_rfl
theorem cellsPk : Tryz.prog.cellsOf 44 = 3 := by kernel_rfl
theorem cellsNds : Tryz.prog.cellsOf 42 = 1 := by kernel_rfl
theorem bytesNd : Tryz.prog.bytesOf 61 = 32 := by kernel_rfl
theorem bytesPk : Tryz.prog.bytesOf 44 = 56 := by kernel_rfl
theorem addr_atP (b off i : Nat) : (⟨b, off, none⟩ : Addr).add i = ⟨b, off + i, none⟩ := by unfold Addr.add; split <;> simp_all
theorem len2p {α : Type} {l : List α} (h : l.length = 2) : ∃ a b, l = [a, b] := by
  match l, h with
  | [a, b], _ => exact ⟨a, b, rfl⟩
section
variable {H : Type} {enc : TypeId × Value → H} {W : World}
theorem weights_allP {e : TypeId} {d : DataW H} {n : Nat} (hn : n ∈ d.weights Tryz.prog e) : ∀ (L : List (DataW H)), d ∈ L → n ∈ DataW.weightsAll Tryz.prog e L
  | [], h => by cases h
  | y :: r, h => by
    simp only [DataW.weightsAll, List.mem_append]
    rcases List.mem_cons.1 h with e1 | e1
    · left; rw [← e1]; exact hn
    · right; exact weights_allP hn r e1
theorem open_need {fuel : Nat} {cs : List Value} {x : DataW H × List MemPlace} (h : DataW.trod enc Tryz.prog W 0 (fun _ => true) true fuel 61 cs = some x) (hw : ∀ n ∈ x.1.weights Tryz.prog 61, n ≤ reachBytes) : ∃ v : Ned, cs = encN v ∧ v.nm.size ≤ 140737488355328 ∧ v.rg.size ≤ 140737488355328 := by
  obtain ⟨xs, m, _, hx, hl, hxl, hall⟩ := DataW.trod_struct Tryz.underlying61 h
  rw [cellsNd] at hl
  have hxl' : xs.length = 2 := by rw [hxl]; rfl
  obtain ⟨v0, v1, rfl⟩ := len2p hl
  obtain ⟨y0, y1, rfl⟩ := len2p hxl'
  have g0 := hall 0 _ rfl
  have g1 := hall 1 _ rfl
  simp [cells9v] at g0 g1
  have hwe : ∀ n ∈ DataW.weightsEach Tryz.prog [9, 9] [y0.1, y1.1], n ≤ reachBytes := by
    intro n hn
    refine hw n ?_
    rw [hx]
    simp only [DataW.weights, Tryz.underlying61]
    exact hn
  obtain ⟨s0, e0, rfl, _⟩ := DataW.trod_string Tryz.underlying9 g0
  obtain ⟨s1, e1, rfl, _⟩ := DataW.trod_string Tryz.underlying9 g1
  simp at e0 e1
  subst e0 e1
  have h0 := hwe s0.data.toList.length (DataW.weights_mem_each (j := 0) rfl rfl _ (by simp [DataW.weights]))
  have h1 := hwe s1.data.toList.length (DataW.weights_mem_each (j := 1) rfl rfl _ (by simp [DataW.weights]))
  simp only [reachBytes, Array.length_toList] at h0 h1
  have k0 : s0.size ≤ 140737488351232 := h0
  have k1 : s1.size ≤ 140737488351232 := h1
  exact ⟨⟨s0, s1⟩, rfl, by show s0.size ≤ _; omega, by show s1.size ≤ _; omega⟩
theorem open_needs {fuel : Nat} {v : Value} {x : DataW H × List MemPlace} (h : DataW.trod enc Tryz.prog W 0 (fun _ => true) true fuel 42 [v] = some x) (hw : ∀ n ∈ x.1.weights Tryz.prog 42, n ≤ reachBytes) :
    ∃ L : List Ned, NeedsIn W v L ∧ L.length ≤ 140737488355328 ∧ ∀ n ∈ L, n.nm.size ≤ 140737488355328 ∧ n.rg.size ≤ 140737488355328 := by
  rcases open_slice Tryz.underlying42 h with ⟨hcs, hx⟩ | ⟨x', l, c, mm, n, D, Pl, hcs, _, hl, hm, hmm, hx4, hall4⟩
  · simp at hcs
    subst hcs
    exact ⟨[], ⟨none, 0, 0, 0, rfl, Nat.le_refl _, fun h => absurd h (by simp), fun _ => rfl, fun i hi => absurd hi (by simp)⟩, Nat.zero_le _, fun v hv => by cases hv⟩
  · simp at hcs
    subst hcs
    simp only [if_true] at hmm
    subst hmm
    rw [cellsNd] at hall4
    have each : ∀ i, i < l → ∃ y : Ned, W.cells? 0 (x'.add (i * 2)) 2 = some (encN y) ∧ y.nm.size ≤ 140737488355328 ∧ y.rg.size ≤ 140737488355328 := by
      intro i hi
      obtain ⟨cs', h1, h2⟩ := hall4 i (by omega)
      obtain ⟨z, h3, h4⟩ := open_need (x := (D i, Pl i)) h2 (fun q hq => hw q (by
        rw [hx4]
        simp only [DataW.weights, Tryz.underlying42, List.mem_cons, List.mem_append]
        right; left
        exact weights_allP hq _ (List.mem_map.2 ⟨i, List.mem_range.2 hi, rfl⟩)))
      exact ⟨z, by rw [← h3]; exact h1, h4⟩
    have : Inhabited Ned := ⟨⟨⟨#[]⟩, ⟨#[]⟩⟩⟩
    obtain ⟨Pf, hP⟩ := choose_lt each
    have hsp0 : 0 < l → x' = ⟨x'.block, x'.off, none⟩ := fun h0 => by
      obtain ⟨h1, _⟩ := hP 0 h0
      obtain ⟨_, hlen6, hcell⟩ := World.cells?_some h1
      have h3 := hcell 0 (by omega)
      rw [List.getElem?_eq_getElem (by omega)] at h3
      obtain ⟨bb, oo, sp⟩ := x'
      have hs : sp = none := by simpa [Addr.add] using World.cell?_spot h3
      rw [hs]
    have hcl : ∀ i, i < l → ∀ j u, (encN (Pf i))[j]? = some u → W.cell? ⟨x'.block, x'.off + i * 2 + j, none⟩ = some u := fun i hi j u hj => by
      obtain ⟨h1, _⟩ := hP i hi
      have hj6 : j < 2 := by
        have := (List.getElem?_eq_some_iff.1 hj).1
        simpa using this
      obtain ⟨_, hlen6, hcell⟩ := World.cells?_some h1
      have h4 := hcell j (by omega)
      rw [hj, hsp0 (by omega), addr_atP, addr_atP] at h4
      exact h4
    have hlen : ((List.range l).map Pf).length = l := by simp
    refine ⟨(List.range l).map Pf, ⟨some x', x'.block, x'.off, mm, by rw [hlen], by rw [hlen]; exact hl, fun h0 => ⟨congrArg some (hsp0 (by rw [hlen] at h0; exact h0)), ?_⟩, (fun h => nomatch h), fun i hi => ?_⟩, ?_, fun v hv => ?_⟩
    · rw [hlen] at h0
      exact World.block_lt_of_cell? W ⟨x'.block, x'.off + 0 * 2 + 0, none⟩ (hcl 0 h0 0 _ rfl)
    · rw [hlen] at hi
      simp only [List.getElem_map, List.getElem_range]
      exact hcl i hi
    · have h9 := hw ((l + (mm - l)) * 32) (by
        rw [hx4]
        simp only [DataW.weights, Tryz.underlying42, bytesNd, List.mem_cons, List.length_map, List.length_range]
        left
        first | trivial | (congr 2; simp))
      simp only [reachBytes] at h9
      rw [hlen]
      omega
    · obtain ⟨i, hi, rfl⟩ := List.mem_map.1 hv
      exact (hP i (List.mem_range.1 hi)).2
/-- What a package that came in has: texts that may be, and needs in memory. -/
structure PkO (W : World) (p : Pak) (nv : Value) : Prop where
  nm : p.nm.size ≤ 140737488355328
  vr : p.vr.size ≤ 140737488355328
  nds : NeedsIn W nv p.nd
  len : p.nd.length ≤ 140737488355328
  fit : ∀ n ∈ p.nd, n.nm.size ≤ 140737488355328 ∧ n.rg.size ≤ 140737488355328
theorem open_pack {fuel : Nat} {cs : List Value} {x : DataW H × List MemPlace} (h : DataW.trod enc Tryz.prog W 0 (fun _ => true) true fuel 44 cs = some x) (hw : ∀ n ∈ x.1.weights Tryz.prog 44, n ≤ reachBytes) : ∃ (p : Pak) (nv : Value), cs = encP p nv ∧ PkO W p nv := by
  obtain ⟨xs, m, _, hx, hl, hxl, hall⟩ := DataW.trod_struct Tryz.underlying44 h
  rw [cellsPk] at hl
  have hxl' : xs.length = 3 := by rw [hxl]; rfl
  obtain ⟨v0, v1, v2, rfl⟩ := len3 hl
  obtain ⟨y0, y1, y2, rfl⟩ := len3 hxl'
  have g0 := hall 0 _ rfl
  have g1 := hall 1 _ rfl
  have g2 := hall 2 _ rfl
  simp [cells9v, cellsNds] at g0 g1 g2
  have hwe : ∀ n ∈ DataW.weightsEach Tryz.prog [9, 9, 42] [y0.1, y1.1, y2.1], n ≤ reachBytes := by
    intro n hn
    refine hw n ?_
    rw [hx]
    simp only [DataW.weights, Tryz.underlying44]
    exact hn
  obtain ⟨s0, e0, rfl, _⟩ := DataW.trod_string Tryz.underlying9 g0
  obtain ⟨s1, e1, rfl, _⟩ := DataW.trod_string Tryz.underlying9 g1
  obtain ⟨ns, e2, f2, f3⟩ := open_needs g2 (fun n hn => hwe n (DataW.weights_mem_each (j := 2) rfl rfl n hn))
  simp at e0 e1
  subst e0 e1
  have h0 := hwe s0.data.toList.length (DataW.weights_mem_each (j := 0) rfl rfl _ (by simp [DataW.weights]))
  have h1 := hwe s1.data.toList.length (DataW.weights_mem_each (j := 1) rfl rfl _ (by simp [DataW.weights]))
  simp only [reachBytes, Array.length_toList] at h0 h1
  have k0 : s0.size ≤ 140737488351232 := h0
  have k1 : s1.size ≤ 140737488351232 := h1
  exact ⟨⟨s0, s1, ns⟩, v2, rfl, by show s0.size ≤ _; omega, by show s1.size ≤ _; omega, e2, f2, f3⟩
theorem open_packs {fuel : Nat} {v : Value} {x : DataW H × List MemPlace} (h : DataW.trod enc Tryz.prog W 0 (fun _ => true) true fuel 22 [v] = some x) (hw : ∀ n ∈ x.1.weights Tryz.prog 22, n ≤ reachBytes) :
    ∃ (a : Option Addr) (L : List Pak) (c : Nat), v = .slice a L.length c ∧ PacksIn W (.slice a L.length c) L ∧ FitP L ∧ L.length ≤ 140737488355328 ∧ ∀ p ∈ L, p.nd.length ≤ 140737488355328 := by
  rcases open_slice Tryz.underlying22 h with ⟨hcs, hx⟩ | ⟨x', l, c, mm, n, D, Pl, hcs, _, hl, hm, hmm, hx4, hall4⟩
  · simp at hcs
    subst hcs
    exact ⟨none, [], 0, rfl, ⟨none, 0, 0, 0, rfl, Nat.le_refl _, fun h => absurd h (by simp), fun _ => rfl, fun i hi => absurd hi (by simp)⟩, (fun v hv => by cases hv), Nat.zero_le _, fun v hv => by cases hv⟩
  · simp at hcs
    subst hcs
    simp only [if_true] at hmm
    subst hmm
    rw [cellsPk] at hall4
    have each : ∀ i, i < l → ∃ y : Pak × Value, W.cells? 0 (x'.add (i * 3)) 3 = some (encP y.1 y.2) ∧ PkO W y.1 y.2 := by
      intro i hi
      obtain ⟨cs', h1, h2⟩ := hall4 i (by omega)
      obtain ⟨z, nv, h3, h4⟩ := open_pack (x := (D i, Pl i)) h2 (fun q hq => hw q (by
        rw [hx4]
        simp only [DataW.weights, Tryz.underlying22, List.mem_cons, List.mem_append]
        right; left
        exact weights_allP hq _ (List.mem_map.2 ⟨i, List.mem_range.2 hi, rfl⟩)))
      exact ⟨(z, nv), by rw [← h3]; exact h1, h4⟩
    have : Inhabited (Pak × Value) := ⟨(⟨⟨#[]⟩, ⟨#[]⟩, []⟩, .slice none 0 0)⟩
    obtain ⟨Pf, hP⟩ := choose_lt each
    have hsp0 : 0 < l → x' = ⟨x'.block, x'.off, none⟩ := fun h0 => by
      obtain ⟨h1, _⟩ := hP 0 h0
      obtain ⟨_, hlen6, hcell⟩ := World.cells?_some h1
      have h3 := hcell 0 (by omega)
      rw [List.getElem?_eq_getElem (by omega)] at h3
      obtain ⟨bb, oo, sp⟩ := x'
      have hs : sp = none := by simpa [Addr.add] using World.cell?_spot h3
      rw [hs]
    have hcl : ∀ i, i < l → ∀ j u, (encP (Pf i).1 (Pf i).2)[j]? = some u → W.cell? ⟨x'.block, x'.off + i * 3 + j, none⟩ = some u := fun i hi j u hj => by
      obtain ⟨h1, _⟩ := hP i hi
      have hj6 : j < 3 := by
        have := (List.getElem?_eq_some_iff.1 hj).1
        simpa using this
      obtain ⟨_, hlen6, hcell⟩ := World.cells?_some h1
      have h4 := hcell j (by omega)
      rw [hj, hsp0 (by omega), addr_atP, addr_atP] at h4
      exact h4
    have hlen : ((List.range l).map fun i => (Pf i).1).length = l := by simp
    refine ⟨some x', (List.range l).map fun i => (Pf i).1, mm, by rw [hlen], ⟨some x', x'.block, x'.off, mm, rfl, by rw [hlen]; exact hl, fun h0 => ⟨congrArg some (hsp0 (by rw [hlen] at h0; exact h0)), ?_⟩, (fun h => nomatch h), fun i hi => ?_⟩, fun p hp => ?_, ?_, fun p hp => ?_⟩
    · rw [hlen] at h0
      exact World.block_lt_of_cell? W ⟨x'.block, x'.off + 0 * 3 + 0, none⟩ (hcl 0 h0 0 _ rfl)
    · rw [hlen] at hi
      simp only [List.getElem_map, List.getElem_range]
      exact ⟨(Pf i).2, hcl i hi, (hP i hi).2.nds⟩
    · obtain ⟨i, hi, rfl⟩ := List.mem_map.1 hp
      have hk := (hP i (List.mem_range.1 hi)).2
      exact ⟨hk.nm, hk.vr, hk.fit⟩
    · have h9 := hw ((l + (mm - l)) * 56) (by
        rw [hx4]
        simp only [DataW.weights, Tryz.underlying22, bytesPk, List.mem_cons, List.length_map, List.length_range]
        left
        first | trivial | (congr 2; simp))
      simp only [reachBytes] at h9
      rw [hlen]
      omega
    · obtain ⟨i, hi, rfl⟩ := List.mem_map.1 hp
      exact (hP i (List.mem_range.1 hi)).2.len
end
end Go.Proofs.YtkbhckjpmgkgjaaGreatDoor
namespace Go.Proofs.YtkbhckjpmgkgjaaGreatDoor
theorem bulk_str {H : Type} (b : List UInt8) : Rows.uptoBulk (DataW.lit (H := H) (.string b)) = b.length + 1 := by simp [Rows.uptoBulk]
theorem bulk_bound {H : Type} {l : List (DataW H)} (hk : Rows.uptoSmall H l = true) : Rows.uptoBulkAll l ≤ 1048576 := of_decide_eq_true hk
end Go.Proofs.YtkbhckjpmgkgjaaGreatDoor
namespace Go.Proofs.YtkbhckjpmgkgjaaGreatDoor
open Go.ChangeShapes Go.WideShapes Go.ChangeAt Go.RowKit Go.Deep

/-- Texts that fit, ranges of at most so many bytes. -/
def FitB (B : Nat) (L : List Pak) : Prop := ∀ p ∈ L, p.nm.size ≤ 140737488355328 ∧ p.vr.size ≤ 140737488355328 ∧ ∀ n ∈ p.nd, n.nm.size ≤ 140737488355328 ∧ n.rg.size ≤ B
theorem FitB.p {B : Nat} {L : List Pak} (h : FitB B L) (hB : B ≤ 1048576) : FitP L := fun p hp => ⟨(h p hp).1, (h p hp).2.1, fun n hn => ⟨((h p hp).2.2 n hn).1, Nat.le_trans ((h p hp).2.2 n hn).2 (by omega)⟩⟩
theorem FitB.r {B : Nat} {L : List Pak} (h : FitB B L) (hB : B ≤ 1048576) : FitR L := fun p hp => ⟨(h p hp).1, (h p hp).2.1, fun n hn => ⟨((h p hp).2.2 n hn).1, Nat.le_trans ((h p hp).2.2 n hn).2 (by omega)⟩⟩
section
variable {H : Type} {enc : TypeId × Value → H} {W : World}
theorem bulk_mem {d : DataW H} : ∀ {L : List (DataW H)}, d ∈ L → Rows.uptoBulk d ≤ Rows.uptoBulkAll L
  | [], h => by cases h
  | y :: r, h => by
    simp only [Rows.uptoBulkAll]
    rcases List.mem_cons.1 h with e | e
    · rw [e]; omega
    · have := bulk_mem e; omega
theorem open_needU {fuel : Nat} {cs : List Value} {x : DataW H × List MemPlace} (h : DataW.trod enc Tryz.prog W 0 (fun _ => true) true fuel 61 cs = some x) (hw : ∀ n ∈ x.1.weights Tryz.prog 61, n ≤ reachBytes) : ∃ v : Ned, cs = encN v ∧ v.nm.size ≤ 140737488355328 ∧ v.rg.size ≤ Rows.uptoBulk x.1 := by
  obtain ⟨xs, m, _, hx, hl, hxl, hall⟩ := DataW.trod_struct Tryz.underlying61 h
  rw [cellsNd] at hl
  have hxl' : xs.length = 2 := by rw [hxl]; rfl
  obtain ⟨v0, v1, rfl⟩ := len2p hl
  obtain ⟨y0, y1, rfl⟩ := len2p hxl'
  have g0 := hall 0 _ rfl
  have g1 := hall 1 _ rfl
  simp [cells9v] at g0 g1
  have hwe : ∀ n ∈ DataW.weightsEach Tryz.prog [9, 9] [y0.1, y1.1], n ≤ reachBytes := by
    intro n hn
    refine hw n ?_
    rw [hx]
    simp only [DataW.weights, Tryz.underlying61]
    exact hn
  obtain ⟨s0, e0, rfl, _⟩ := DataW.trod_string Tryz.underlying9 g0
  obtain ⟨s1, e1, rfl, _⟩ := DataW.trod_string Tryz.underlying9 g1
  simp at e0 e1
  subst e0 e1
  have h0 := hwe s0.data.toList.length (DataW.weights_mem_each (j := 0) rfl rfl _ (by simp [DataW.weights]))
  have h1 := hwe s1.data.toList.length (DataW.weights_mem_each (j := 1) rfl rfl _ (by simp [DataW.weights]))
  simp only [reachBytes, Array.length_toList] at h0 h1
  have k0 : s0.size ≤ 140737488351232 := h0
  have k1 : s1.size ≤ 140737488351232 := h1
  have hsz : s1.data.toList.length = s1.size := Array.length_toList
  exact ⟨⟨s0, s1⟩, rfl, by show s0.size ≤ _; omega, by rw [hx]; simp only [List.map_cons, List.map_nil, Rows.uptoBulk, Rows.uptoBulkAll]; show s1.size ≤ _; omega⟩
theorem open_needsU {fuel : Nat} {v : Value} {x : DataW H × List MemPlace} (h : DataW.trod enc Tryz.prog W 0 (fun _ => true) true fuel 42 [v] = some x) (hw : ∀ n ∈ x.1.weights Tryz.prog 42, n ≤ reachBytes) :
    ∃ L : List Ned, NeedsIn W v L ∧ L.length ≤ 140737488355328 ∧ ∀ n ∈ L, n.nm.size ≤ 140737488355328 ∧ n.rg.size ≤ Rows.uptoBulk x.1 := by
  rcases open_slice Tryz.underlying42 h with ⟨hcs, hx⟩ | ⟨x', l, c, mm, n, D, Pl, hcs, _, hl, hm, hmm, hx4, hall4⟩
  · simp at hcs
    subst hcs
    exact ⟨[], ⟨none, 0, 0, 0, rfl, Nat.le_refl _, fun h => absurd h (by simp), fun _ => rfl, fun i hi => absurd hi (by simp)⟩, Nat.zero_le _, fun v hv => by cases hv⟩
  · simp at hcs
    subst hcs
    simp only [if_true] at hmm
    subst hmm
    rw [cellsNd] at hall4
    have each : ∀ i, i < l → ∃ y : Ned, W.cells? 0 (x'.add (i * 2)) 2 = some (encN y) ∧ y.nm.size ≤ 140737488355328 ∧ y.rg.size ≤ Rows.uptoBulk x.1 := by
      intro i hi
      obtain ⟨cs', h1, h2⟩ := hall4 i (by omega)
      obtain ⟨z, h3, h4⟩ := open_needU (x := (D i, Pl i)) h2 (fun q hq => hw q (by
        rw [hx4]
        simp only [DataW.weights, Tryz.underlying42, List.mem_cons, List.mem_append]
        right; left
        exact weights_allP hq _ (List.mem_map.2 ⟨i, List.mem_range.2 hi, rfl⟩)))
      exact ⟨z, by rw [← h3]; exact h1, h4.1, Nat.le_trans h4.2 (by rw [hx4]; simp only [Rows.uptoBulk]; have := bulk_mem (List.mem_map.2 ⟨i, List.mem_range.2 hi, rfl⟩ : D i ∈ (List.range l).map D); omega)⟩
    have : Inhabited Ned := ⟨⟨⟨#[]⟩, ⟨#[]⟩⟩⟩
    obtain ⟨Pf, hP⟩ := choose_lt each
    have hsp0 : 0 < l → x' = ⟨x'.block, x'.off, none⟩ := fun h0 => by
      obtain ⟨h1, _⟩ := hP 0 h0
      obtain ⟨_, hlen6, hcell⟩ := World.cells?_some h1
      have h3 := hcell 0 (by omega)
      rw [List.getElem?_eq_getElem (by omega)] at h3
      obtain ⟨bb, oo, sp⟩ := x'
      have hs : sp = none := by simpa [Addr.add] using World.cell?_spot h3
      rw [hs]
    have hcl : ∀ i, i < l → ∀ j u, (encN (Pf i))[j]? = some u → W.cell? ⟨x'.block, x'.off + i * 2 + j, none⟩ = some u := fun i hi j u hj => by
      obtain ⟨h1, _⟩ := hP i hi
      have hj6 : j < 2 := by
        have := (List.getElem?_eq_some_iff.1 hj).1
        simpa using this
      obtain ⟨_, hlen6, hcell⟩ := World.cells?_some h1
      have h4 := hcell j (by omega)
      rw [hj, hsp0 (by omega), addr_atP, addr_atP] at h4
      exact h4
    have hlen : ((List.range l).map Pf).length = l := by simp
    refine ⟨(List.range l).map Pf, ⟨some x', x'.block, x'.off, mm, by rw [hlen], by rw [hlen]; exact hl, fun h0 => ⟨congrArg some (hsp0 (by rw [hlen] at h0; exact h0)), ?_⟩, (fun h => nomatch h), fun i hi => ?_⟩, ?_, fun v hv => ?_⟩
    · rw [hlen] at h0
      exact World.block_lt_of_cell? W ⟨x'.block, x'.off + 0 * 2 + 0, none⟩ (hcl 0 h0 0 _ rfl)
    · rw [hlen] at hi
      simp only [List.getElem_map, List.getElem_range]
      exact hcl i hi
    · have h9 := hw ((l + (mm - l)) * 32) (by
        rw [hx4]
        simp only [DataW.weights, Tryz.underlying42, bytesNd, List.mem_cons, List.length_map, List.length_range]
        left
        first | trivial | (congr 2; simp))
      simp only [reachBytes] at h9
      rw [hlen]
      omega
    · obtain ⟨i, hi, rfl⟩ := List.mem_map.1 hv
      exact (hP i (List.mem_range.1 hi)).2
/-- What a package that came in has: texts that may be, and needs in memory. -/
structure PkU (W : World) (p : Pak) (nv : Value) (B : Nat) : Prop where
  nm : p.nm.size ≤ 140737488355328
  vr : p.vr.size ≤ 140737488355328
  nds : NeedsIn W nv p.nd
  len : p.nd.length ≤ 140737488355328
  fit : ∀ n ∈ p.nd, n.nm.size ≤ 140737488355328 ∧ n.rg.size ≤ B
theorem open_packU {fuel : Nat} {cs : List Value} {x : DataW H × List MemPlace} (h : DataW.trod enc Tryz.prog W 0 (fun _ => true) true fuel 44 cs = some x) (hw : ∀ n ∈ x.1.weights Tryz.prog 44, n ≤ reachBytes) : ∃ (p : Pak) (nv : Value), cs = encP p nv ∧ PkU W p nv (Rows.uptoBulk x.1) := by
  obtain ⟨xs, m, _, hx, hl, hxl, hall⟩ := DataW.trod_struct Tryz.underlying44 h
  rw [cellsPk] at hl
  have hxl' : xs.length = 3 := by rw [hxl]; rfl
  obtain ⟨v0, v1, v2, rfl⟩ := len3 hl
  obtain ⟨y0, y1, y2, rfl⟩ := len3 hxl'
  have g0 := hall 0 _ rfl
  have g1 := hall 1 _ rfl
  have g2 := hall 2 _ rfl
  simp [cells9v, cellsNds] at g0 g1 g2
  have hwe : ∀ n ∈ DataW.weightsEach Tryz.prog [9, 9, 42] [y0.1, y1.1, y2.1], n ≤ reachBytes := by
    intro n hn
    refine hw n ?_
    rw [hx]
    simp only [DataW.weights, Tryz.underlying44]
    exact hn
  obtain ⟨s0, e0, rfl, _⟩ := DataW.trod_string Tryz.underlying9 g0
  obtain ⟨s1, e1, rfl, _⟩ := DataW.trod_string Tryz.underlying9 g1
  obtain ⟨ns, e2, f2, f3⟩ := open_needsU g2 (fun n hn => hwe n (DataW.weights_mem_each (j := 2) rfl rfl n hn))
  simp at e0 e1
  subst e0 e1
  have h0 := hwe s0.data.toList.length (DataW.weights_mem_each (j := 0) rfl rfl _ (by simp [DataW.weights]))
  have h1 := hwe s1.data.toList.length (DataW.weights_mem_each (j := 1) rfl rfl _ (by simp [DataW.weights]))
  simp only [reachBytes, Array.length_toList] at h0 h1
  have k0 : s0.size ≤ 140737488351232 := h0
  have k1 : s1.size ≤ 140737488351232 := h1
  exact ⟨⟨s0, s1, ns⟩, v2, rfl, by show s0.size ≤ _; omega, by show s1.size ≤ _; omega, e2, f2, fun n hn => ⟨(f3 n hn).1, Nat.le_trans (f3 n hn).2 (by rw [hx]; simp only [List.map_cons, List.map_nil, Rows.uptoBulk, Rows.uptoBulkAll]; omega)⟩⟩
theorem open_packsU {fuel : Nat} {v : Value} {x : DataW H × List MemPlace} (h : DataW.trod enc Tryz.prog W 0 (fun _ => true) true fuel 22 [v] = some x) (hw : ∀ n ∈ x.1.weights Tryz.prog 22, n ≤ reachBytes) :
    ∃ (a : Option Addr) (L : List Pak) (c : Nat), v = .slice a L.length c ∧ PacksIn W (.slice a L.length c) L ∧ FitB (Rows.uptoBulk x.1) L ∧ L.length ≤ 140737488355328 ∧ ∀ p ∈ L, p.nd.length ≤ 140737488355328 := by
  rcases open_slice Tryz.underlying22 h with ⟨hcs, hx⟩ | ⟨x', l, c, mm, n, D, Pl, hcs, _, hl, hm, hmm, hx4, hall4⟩
  · simp at hcs
    subst hcs
    exact ⟨none, [], 0, rfl, ⟨none, 0, 0, 0, rfl, Nat.le_refl _, fun h => absurd h (by simp), fun _ => rfl, fun i hi => absurd hi (by simp)⟩, (fun v hv => by cases hv), Nat.zero_le _, fun v hv => by cases hv⟩
  · simp at hcs
    subst hcs
    simp only [if_true] at hmm
    subst hmm
    rw [cellsPk] at hall4
    have each : ∀ i, i < l → ∃ y : Pak × Value, W.cells? 0 (x'.add (i * 3)) 3 = some (encP y.1 y.2) ∧ PkU W y.1 y.2 (Rows.uptoBulk x.1) := by
      intro i hi
      obtain ⟨cs', h1, h2⟩ := hall4 i (by omega)
      obtain ⟨z, nv, h3, h4⟩ := open_packU (x := (D i, Pl i)) h2 (fun q hq => hw q (by
        rw [hx4]
        simp only [DataW.weights, Tryz.underlying22, List.mem_cons, List.mem_append]
        right; left
        exact weights_allP hq _ (List.mem_map.2 ⟨i, List.mem_range.2 hi, rfl⟩)))
      exact ⟨(z, nv), by rw [← h3]; exact h1, h4.nm, h4.vr, h4.nds, h4.len, fun n hn => ⟨(h4.fit n hn).1, Nat.le_trans (h4.fit n hn).2 (by rw [hx4]; simp only [Rows.uptoBulk]; have := bulk_mem (List.mem_map.2 ⟨i, List.mem_range.2 hi, rfl⟩ : D i ∈ (List.range l).map D); omega)⟩⟩
    have : Inhabited (Pak × Value) := ⟨(⟨⟨#[]⟩, ⟨#[]⟩, []⟩, .slice none 0 0)⟩
    obtain ⟨Pf, hP⟩ := choose_lt each
    have hsp0 : 0 < l → x' = ⟨x'.block, x'.off, none⟩ := fun h0 => by
      obtain ⟨h1, _⟩ := hP 0 h0
      obtain ⟨_, hlen6, hcell⟩ := World.cells?_some h1
      have h3 := hcell 0 (by omega)
      rw [List.getElem?_eq_getElem (by omega)] at h3
      obtain ⟨bb, oo, sp⟩ := x'
      have hs : sp = none := by simpa [Addr.add] using World.cell?_spot h3
      rw [hs]
    have hcl : ∀ i, i < l → ∀ j u, (encP (Pf i).1 (Pf i).2)[j]? = some u → W.cell? ⟨x'.block, x'.off + i * 3 + j, none⟩ = some u := fun i hi j u hj => by
      obtain ⟨h1, _⟩ := hP i hi
      have hj6 : j < 3 := by
        have := (List.getElem?_eq_some_iff.1 hj).1
        simpa using this
      obtain ⟨_, hlen6, hcell⟩ := World.cells?_some h1
      have h4 := hcell j (by omega)
      rw [hj, hsp0 (by omega), addr_atP, addr_atP] at h4
      exact h4
    have hlen : ((List.range l).map fun i => (Pf i).1).length = l := by simp
    refine ⟨some x', (List.range l).map fun i => (Pf i).1, mm, by rw [hlen], ⟨some x', x'.block, x'.off, mm, rfl, by rw [hlen]; exact hl, fun h0 => ⟨congrArg some (hsp0 (by rw [hlen] at h0; exact h0)), ?_⟩, (fun h => nomatch h), fun i hi => ?_⟩, fun p hp => ?_, ?_, fun p hp => ?_⟩
    · rw [hlen] at h0
      exact World.block_lt_of_cell? W ⟨x'.block, x'.off + 0 * 3 + 0, none⟩ (hcl 0 h0 0 _ rfl)
    · rw [hlen] at hi
      simp only [List.getElem_map, List.getElem_range]
      exact ⟨(Pf i).2, hcl i hi, (hP i hi).2.nds⟩
    · obtain ⟨i, hi, rfl⟩ := List.mem_map.1 hp
      have hk := (hP i (List.mem_range.1 hi)).2
      exact ⟨hk.nm, hk.vr, hk.fit⟩
    · have h9 := hw ((l + (mm - l)) * 56) (by
        rw [hx4]
        simp only [DataW.weights, Tryz.underlying22, bytesPk, List.mem_cons, List.length_map, List.length_range]
        left
        first | trivial | (congr 2; simp))
      simp only [reachBytes] at h9
      rw [hlen]
      omega
    · obtain ⟨i, hi, rfl⟩ := List.mem_map.1 hp
      exact (hP i (List.mem_range.1 hi)).2.len
end
end Go.Proofs.YtkbhckjpmgkgjaaGreatDoor
