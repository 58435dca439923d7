/- My own work: the law IndexCounts. -/
import Derived.Test.YtdhmlcelofnkgaaGreatDoorXD
import Derived.Test.YtdhmlcelofnkgaaGreatDoorDag2
namespace Go.Proofs.YtdhmlcelofnkgaaGreatDoor
open Go.RowKit

theorem packs_of {wr : World} {B : Nat} {D : List PV} {ov : Value} (h : wr.ownsRow B 44 3 ov D.length (flatD D)) (hn : ∀ d ∈ D, NeedsIn wr d.2 d.1.nd) : PacksIn wr ov (D.map (·.1)) := by
  have h' := h
  have hl : (D.map (·.1)).length = D.length := List.length_map _
  obtain ⟨_, ⟨rfl, h0⟩ | ⟨g, cap, cur, rfl, _, hr, hc, _⟩⟩ := h
  · exact ⟨none, 0, 0, 0, by rw [hl, h0], by omega, fun h => absurd h (by omega), fun _ => rfl, fun i hi => absurd hi (by omega)⟩
  · refine ⟨some ⟨g, 0, none⟩, g, 0, cap, by rw [hl], by rw [hl]; exact hc, fun _ => ⟨rfl, (Array.getElem?_eq_some_iff.1 hr).1⟩, (fun h => by cases h), fun i hi => ?_⟩
    have hiD : i < D.length := by rw [hl] at hi; exact hi
    refine ⟨D[i].2, fun j u hj => ?_, ?_⟩
    · have hj3 : j < 3 := (List.getElem?_eq_some_iff.1 hj).1
      rw [List.getElem_map] at hj
      rw [Nat.zero_add, h'.cellAt (i * 3 + j) (by omega), flatD_at D i hiD j hj3]
      exact hj
    · rw [List.getElem_map]
      exact hn _ (List.getElem_mem hiD)
/-- One package more, whose needs lie elsewhere. -/
theorem twice_packs {w w8 w9 : World} {D : List PV} {ov ov' : Value} {p : Pak} {nv : Value} (h : OwR w w8 D ov) (hn : NeedsIn w9 nv p.nd) (ho : w9.ownsRow w.heap.size 44 3 ov' (D.length + 1) (flatD D ++ encP p nv)) (hg : w8.grownBy w9 ov.ownBlock) : PacksIn w9 ov' (D.map (·.1) ++ [p]) := by
  have hrow := ownsRow_row h.own
  have e : D.map (·.1) ++ [p] = (D ++ [(p, nv)]).map (·.1) := by rw [List.map_append]; rfl
  rw [e]
  refine packs_of (B := w.heap.size) (by rw [List.length_append, flatD_snoc]; exact ho) fun d hd => ?_
  rcases List.mem_append.1 hd with hd | hd
  · have hv := h.nds d hd
    refine needs_own (B := w.heap.size) (own_same hv fun k hk => hg.block k (own_block hv k hk).2 fun e => ?_)
    obtain ⟨C, hC⟩ := ownsRow_row hv k hk
    obtain ⟨E, hE⟩ := hrow k e.symm
    rw [hC] at hE
    simp at hE
  · rw [List.mem_singleton.1 hd]; exact hn
theorem own_set {w : World} {B s n : Nat} {e : TypeId} {g cap : Nat} {xs : List Value} (h : w.ownsRow B e s (.slice (some ⟨g, 0, none⟩) n cap) n xs) (k : Nat) (x : Value) : (w.setCell ⟨g, k, none⟩ x).ownsRow B e s (.slice (some ⟨g, 0, none⟩) n cap) n (xs.set k x) := by
  obtain ⟨hl, ⟨h1, _⟩ | ⟨g', cap', cur, h1, hb, hr, hnc, hcm, hsz, htk⟩⟩ := h
  · cases h1
  · simp only [Value.slice.injEq, Option.some.injEq, Addr.mk.injEq, and_true, true_and] at h1
    obtain ⟨rfl, rfl⟩ := h1
    refine ⟨by rw [List.length_set]; exact hl, Or.inr ⟨g, cap, cur.setIfInBounds k x, rfl, hb, Row.setCell hr x, hnc, hcm, by rw [Array.size_setIfInBounds]; exact hsz, ?_⟩⟩
    rw [← htk, Array.toList_setIfInBounds, List.take_set]
theorem flatD_set : ∀ (D : List PV) (n : Nat) (hn : n < D.length) (nd : List Ned) (v : Value), flatD (D.set n (⟨D[n].1.nm, D[n].1.vr, nd⟩, v)) = (flatD D).set (n * 3 + 2) v
  | [], n, hn, _, _ => absurd hn (by simp)
  | d :: r, 0, _, nd, v => rfl
  | d :: r, n + 1, hn, nd, v => by
    have hn' : n < r.length := by simpa using hn
    show encP d.1 d.2 ++ flatD (r.set n (⟨r[n].1.nm, r[n].1.vr, nd⟩, v)) = (encP d.1 d.2 ++ flatD r).set ((n + 1) * 3 + 2) v
    rw [flatD_set r n hn' nd v, List.set_append_right _ _ (by show 3 ≤ _; omega)]
    show _ = encP d.1 d.2 ++ (flatD r).set ((n + 1) * 3 + 2 - 3) v
    rw [show (n + 1) * 3 + 2 - 3 = n * 3 + 2 by omega]
/-- One package's needs are more. -/
theorem again_packs {w w8 w6 : World} {D : List PV} {go oc : Nat} (h : OwR w w8 D (.slice (some ⟨go, 0, none⟩) D.length oc)) {n : Nat} (hn : n < D.length) {wa : World} (hba : Below w8.heap.size w8 wa) {nd : List Ned} {v6 : Value} (h6 : w6.ownsRow w.heap.size 46 2 v6 nd.length (flatN nd)) (hg : wa.grownBy w6 (D[n].2).ownBlock) :
    PacksIn (w6.setCell ⟨go, n * 3 + 2, none⟩ v6) (.slice (some ⟨go, 0, none⟩) D.length oc) ((D.map (·.1)).set n ⟨D[n].1.nm, D[n].1.vr, nd⟩) ∧ Below w.heap.size w (w6.setCell ⟨go, n * 3 + 2, none⟩ v6) := by
  have hown := h.own
  have hrow := ownsRow_row hown go rfl
  have hgo := own_block hown go rfl
  have hrow6 : ∀ k, v6.ownBlock = some k → k ≠ go := fun k hk e => by
    obtain ⟨C, hC⟩ := ownsRow_row h6 k hk
    have hnn := ownsRow_row (h.nds D[n] (List.getElem_mem hn))
    obtain ⟨E, hE⟩ := hrow
    have hE6 : w6.heap[go]? = w8.heap[go]? := (hg.block go (Nat.lt_of_lt_of_le hgo.2 hba.size) fun e2 => by
      obtain ⟨G, hG⟩ := hnn go e2.symm
      rw [hE] at hG
      simp at hG).trans (hba.block go hgo.2)
    rw [e, hE6, hE] at hC
    simp at hC
  have hown6 : w6.ownsRow w.heap.size 44 3 (.slice (some ⟨go, 0, none⟩) D.length oc) D.length (flatD D) := own_same hown fun k hk => by
    have : k = go := by simpa [Value.ownBlock] using hk.symm
    subst this
    refine (hg.block k (Nat.lt_of_lt_of_le hgo.2 hba.size) fun e2 => ?_).trans (hba.block k hgo.2)
    obtain ⟨G, hG⟩ := ownsRow_row (h.nds D[n] (List.getElem_mem hn)) k e2.symm
    obtain ⟨E, hE⟩ := hrow
    rw [hE] at hG
    simp at hG
  have hset := own_set hown6 (n * 3 + 2) v6
  rw [← flatD_set D n hn nd v6] at hset
  have hmap : (D.map (·.1)).set n ⟨D[n].1.nm, D[n].1.vr, nd⟩ = (D.set n (⟨D[n].1.nm, D[n].1.vr, nd⟩, v6)).map (·.1) := by rw [List.map_set]
  have hlen : (D.set n (⟨D[n].1.nm, D[n].1.vr, nd⟩, v6)).length = D.length := List.length_set
  have h68 : Below w.heap.size w8 w6 := (hba.mono h.old.size).trans (below_own' hg (Nat.le_trans h.old.size hba.size) fun k hk => (own_block (h.nds D[n] (List.getElem_mem hn)) k hk).1)
  refine ⟨?_, (h.old.trans h68).trans (below_set hgo.1 _ _)⟩
  rw [hmap]
  refine packs_of (B := w.heap.size) (by rw [hlen]; exact hset) fun d hd => ?_
  obtain ⟨j, hj, rfl⟩ := List.getElem_of_mem hd
  rw [hlen] at hj
  by_cases hjn : j = n
  · subst hjn
    rw [List.getElem_set_self]
    exact needs_own (B := w.heap.size) (own_same h6 fun k hk => Below.heap_setCell _ _ _ _ (by show k ≠ go; exact hrow6 k hk))
  · rw [List.getElem_set_ne (fun e => hjn e.symm)]
    have hv := h.nds D[j] (List.getElem_mem hj)
    refine needs_own (B := w.heap.size) (own_same hv fun k hk => ?_)
    have hkgo : k ≠ go := fun e => by
      obtain ⟨C, hC⟩ := ownsRow_row hv k hk
      obtain ⟨E, hE⟩ := hrow
      rw [e, hE] at hC
      simp at hC
    refine (Below.heap_setCell _ _ _ _ (by show k ≠ go; exact hkgo)).trans ((hg.block k (Nat.lt_of_lt_of_le (own_block hv k hk).2 hba.size) fun e2 => ?_).trans (hba.block k (own_block hv k hk).2))
    have hp := List.pairwise_iff_getElem.1 h.sep
    rcases Nat.lt_or_gt_of_ne hjn with hl | hl
    · exact hp j n hj hn hl k k hk e2.symm rfl
    · exact hp n j hn hj hl k k e2.symm hk rfl
theorem two_nd (w : World) : (Instr.buildSlice 42 2 #[(0, .agg #[.string ⟨#[110, 111, 110, 101]⟩, .string ⟨#[42]⟩]), (1, .agg #[.string ⟨#[110, 111, 110, 101]⟩, .string ⟨#[42]⟩])]).run Tryz.prog w = .ok (.slice (some ⟨w.heap.size, 0, none⟩) 2 2) (w.alloc (.cells #[.string ⟨#[110, 111, 110, 101]⟩, .string ⟨#[42]⟩, .string ⟨#[110, 111, 110, 101]⟩, .string ⟨#[42]⟩] 46)) := by
  obtain ⟨i0, hi, hz0, hz1, _⟩ := info_parts infoNdz
  refine run_buildSlice w 42 46 2 _ _ i0 _ Tryz.underlying42 hi hz0 (by rw [hz1]; decide) (by rw [hz1]; decide) ?_
  rw [hz1]
  kernel_rfl
theorem one_in (w : World) (nm vr : ByteArray) : PacksIn (w.alloc (.cells #[.string nm, .string vr, .slice none 0 0] 44)) (.slice (some ⟨w.heap.size, 0, none⟩) 1 1) [⟨nm, vr, []⟩] := by
  have hr : Row (w.alloc (.cells #[.string nm, .string vr, .slice none 0 0] 44)) w.heap.size #[.string nm, .string vr, .slice none 0 0] 44 := Row.new _ _ _
  refine ⟨some ⟨w.heap.size, 0, none⟩, w.heap.size, 0, 1, rfl, Nat.le_refl _, fun _ => ⟨rfl, hr.lt⟩, (fun h => nomatch h), fun i hi => ?_⟩
  have hi0 : i = 0 := by simpa using hi
  subst hi0
  refine ⟨.slice none 0 0, fun j u hj => ?_, ⟨none, 0, 0, 0, rfl, Nat.le_refl _, fun h => absurd h (by simp), fun _ => rfl, fun i hi => absurd hi (by simp)⟩⟩
  rw [Nat.zero_mul, Nat.zero_add, hr.cell j, ← hj]
  exact List.getElem?_toArray
/-- The row of packages while one's needs grow. -/
theorem again_row {w w8 w6 : World} {D : List PV} {go oc : Nat} (h : OwR w w8 D (.slice (some ⟨go, 0, none⟩) D.length oc)) {n : Nat} (hn : n < D.length) {wa : World} (hba : Below w8.heap.size w8 wa) (hg : wa.grownBy w6 (D[n].2).ownBlock) :
    w8.cell? ⟨go, n * 3 + 2, none⟩ = some D[n].2 ∧ w6.cell? ⟨go, n * 3 + 2, none⟩ = some D[n].2 ∧ w6.frozen? ⟨go, n * 3 + 2, none⟩ = false ∧ ∀ v, (w6.setCell ⟨go, n * 3 + 2, none⟩ v).cell? ⟨go, n * 3 + 2, none⟩ = some v := by
  have hown := h.own
  have hgo := own_block hown go rfl
  obtain ⟨C, hC⟩ := ownsRow_row hown go rfl
  have hc8 : w8.cell? ⟨go, n * 3 + 2, none⟩ = some D[n].2 := by
    rw [hown.cellAt (n * 3 + 2) (by omega), flatD_at D n hn 2 (by omega)]
    rfl
  have hr8 : Row w8 go C 44 := hC
  have hlt : n * 3 + 2 < C.size := by
    have e := hr8.cell (n * 3 + 2)
    rw [hc8] at e
    exact (Array.getElem?_eq_some_iff.1 e.symm).1
  have hr6 : Row w6 go C 44 := ((hg.block go (Nat.lt_of_lt_of_le hgo.2 hba.size) fun e2 => by
    obtain ⟨G, hG⟩ := ownsRow_row (h.nds D[n] (List.getElem_mem hn)) go e2.symm
    rw [hC] at hG
    simp at hG).trans (hba.block go hgo.2)).trans hC
  refine ⟨hc8, ?_, hr6.frozen _, fun v => ?_⟩
  · rw [hr6.cell, ← hr8.cell, hc8]
  · rw [(hr6.setCell (i := n * 3 + 2) v).cell]
    simp [hlt]
/-- One package's needs are two more, in this program's words. -/
theorem again_all {L : List Pak} {w w8 w6 wa : World} {D : List PV} {go oc j : Nat} {v6 : Value} (h : OwR w w8 D (.slice (some ⟨go, 0, none⟩) D.length oc)) (hD : D.map (·.1) = L) (hj : j < L.length) (hjD : j < D.length) (hba : Below w8.heap.size w8 wa) (h6 : w6.ownsRow w.heap.size 46 2 v6 (L[j].nd.length + 2) (flatN L[j].nd ++ flatN [noneN, noneN])) (hg : wa.grownBy w6 (D[j].2).ownBlock) :
    PacksIn (w6.setCell ⟨go, j * 3 + 2, none⟩ v6) (.slice (some ⟨go, 0, none⟩) D.length oc) (L.set j ⟨L[j].nm, L[j].vr, L[j].nd ++ [noneN, noneN]⟩) ∧ Below w.heap.size w (w6.setCell ⟨go, j * 3 + 2, none⟩ v6) := by
  subst hD
  simp only [List.getElem_map] at h6 ⊢
  exact again_packs h hjD hba (by rw [List.length_append, flatN_app]; exact h6) hg
theorem two_one : ∀ u ∈ flatN [noneN, noneN], u.oneCell' = true := fun u hu => List.all_eq_true.1 (show (flatN [noneN, noneN]).all (·.oneCell') = true by kernel_rfl) u hu
theorem fit_snoc {L : List Pak} {p : Pak} (h : FitP L) (hp : p ∈ L) : FitP (L ++ [p]) := fun q hq => by
  rcases List.mem_append.1 hq with hq | hq
  · exact h q hq
  · rw [List.mem_singleton.1 hq]; exact h p hp
theorem fit_set {L : List Pak} {j : Nat} (h : FitP L) (hj : j < L.length) : FitP (L.set j ⟨L[j].nm, L[j].vr, L[j].nd ++ [noneN, noneN]⟩) := fun q hq => by
  have h0 := h L[j] (List.getElem_mem hj)
  rcases List.mem_or_eq_of_mem_set hq with hq | rfl
  · exact h q hq
  · refine ⟨h0.1, h0.2.1, fun n hn => ?_⟩
    rcases List.mem_append.1 hn with hn | hn
    · exact h0.2.2 n hn
    · simp at hn
      rw [hn]
      exact ⟨by show 4 ≤ _; omega, by show 1 ≤ _; omega⟩
theorem own_cell {w w8 : World} {D : List PV} {ov : Value} {go : Nat} (h : OwR w w8 D ov) (he : ov.ownBlock = some go) {n : Nat} (hn : n < D.length) : ∃ oc, ov = .slice (some ⟨go, 0, none⟩) D.length oc ∧ w8.cell? ⟨go, n * 3 + 2, none⟩ = some D[n].2 := by
  have hown := h.own
  obtain ⟨_, ⟨rfl, h0⟩ | ⟨g, cap, cur, rfl, _⟩⟩ := h.own
  · cases he
  · simp only [Value.ownBlock, Option.some.injEq] at he
    subst he
    exact ⟨cap, rfl, by rw [hown.cellAt (n * 3 + 2) (by omega), flatD_at D n hn 2 (by omega)]; rfl⟩
theorem own_some {w w8 : World} {D : List PV} {ov : Value} (h : OwR w w8 D ov) (hn : 0 < D.length) : ∃ go, ov.ownBlock = some go := by
  obtain ⟨_, ⟨rfl, h0⟩ | ⟨g, cap, cur, rfl, _⟩⟩ := h.own
  · omega
  · exact ⟨g, rfl⟩
/-- What holds while the names are gathered. -/
structure CnR (w wr : World) (L : List Pak) (i : Nat) (S : List ByteArray) (sv : Value) : Prop where
  own : wr.ownsRow w.heap.size 9 1 sv S.length (S.map Value.string)
  nd : S.Nodup
  mem : ∀ s, s ∈ S ↔ ∃ p ∈ L.take i, p.nm = s
  old : Below w.heap.size w wr
theorem CnR.next {w wr w' : World} {L : List Pak} {i : Nat} {S : List ByteArray} {sv : Value} (h : CnR w wr L i S sv) (hb : Below wr.heap.size wr w') : CnR w w' L i S sv :=
  ⟨own_below h.own hb, h.nd, h.mem, h.old.trans (hb.mono h.old.size)⟩
theorem CnR.skip {w wr : World} {L : List Pak} {i : Nat} {S : List ByteArray} {sv : Value} (h : CnR w wr L i S sv) (hi : i < L.length) (hin : L[i].nm ∈ S) : CnR w wr L (i + 1) S sv :=
  ⟨h.own, h.nd, fun s => by
    rw [h.mem s, List.take_succ_eq_append_getElem hi]
    constructor
    · rintro ⟨p, hp, he⟩; exact ⟨p, List.mem_append_left _ hp, he⟩
    · rintro ⟨p, hp, he⟩
      rcases List.mem_append.1 hp with hp | hp
      · exact ⟨p, hp, he⟩
      · rw [List.mem_singleton.1 hp] at he
        rw [← he]
        exact (h.mem _).1 hin, h.old⟩
theorem CnR.more {w wr w' : World} {L : List Pak} {i : Nat} {S : List ByteArray} {sv sv' : Value} {x : ByteArray} (h : CnR w wr L i S sv) (hi : i < L.length) (hx : x = L[i].nm) (hin : x ∉ S) (ho : w'.ownsRow w.heap.size 9 1 sv' (S.length + 1) (S.map Value.string ++ [.string x])) (hb : Below w.heap.size w w') : CnR w w' L (i + 1) (S ++ [x]) sv' :=
  ⟨by rw [List.length_append, List.map_append]; exact ho, by
    rw [List.nodup_append]
    exact ⟨h.nd, List.nodup_cons.2 ⟨List.not_mem_nil, List.nodup_nil⟩, fun a ha b hb => by
      rw [List.mem_singleton.1 hb]
      exact fun e => hin (by rw [← e]; exact ha)⟩, fun s => by
    rw [List.mem_append, h.mem s, List.take_succ_eq_append_getElem hi, List.mem_singleton]
    constructor
    · rintro (⟨p, hp, he⟩ | he)
      · exact ⟨p, List.mem_append_left _ hp, he⟩
      · exact ⟨L[i], List.mem_append_right _ (List.mem_singleton.2 rfl), by rw [he, hx]⟩
    · rintro ⟨p, hp, he⟩
      rcases List.mem_append.1 hp with hp | hp
      · exact Or.inl ⟨p, hp, he⟩
      · rw [List.mem_singleton.1 hp] at he
        exact Or.inr (by rw [hx, he]), hb⟩
/-- Told of the first ones: none is it. -/
def AllNe (b : Bool) (l : List ByteArray) (x : ByteArray) : Prop := b = true ↔ ∀ s ∈ l, s ≠ x
theorem cntN_le (L : List Pak) (s : ByteArray) : cntN L s ≤ L.length := verOf_len L s
set_option maxRecDepth 40000 in
set_option maxHeartbeats 16000000 in
theorem law_counts {L : List Pak} {pa : Option Addr} {pc : Nat} (k : Int) (w : World) (hL : PacksIn w (.slice pa L.length pc) L) (hF : FitP L) (hl : L.length ≤ 140737488355328) (hnd : ∀ p ∈ L, p.nd.length ≤ 140737488355328) (hT : Pw w) : Calls Tryz.prog 6 #[.slice pa L.length pc, .int .i64 k] w fun e w' => e = .returned (.bool true) ∧ Below w.heap.size w w' := by
  have hfew := few_ok w hL hl hnd
  have HPk : Hid (∀ wx, Below w.heap.size w wx → PacksIn wx (.slice pa L.length pc) L) := fun wx hx => hL.keep (Nat.le_refl _) hx
  have HF : Hid (FitP L) := hF
  have HT : Hid (Pw w) := hT
  obtain ⟨a1, g, off, c1, he, h2, h3, h4, h5⟩ := hL.ex
  simp only [Value.slice.injEq, true_and] at he
  obtain ⟨rfl, rfl⟩ := he
  have HA1 : Hid (0 < L.length → pa = some ⟨g, off, none⟩) := fun h => (h3 h).1
  have HA5 : Hid (∀ i (h : i < L.length), ∃ na nc, (∀ wx, Below w.heap.size w wx → wx.rangeAt g (off + i * 3) (encP L[i] (.slice na L[i].nd.length nc))) ∧ ∀ wx, Below w.heap.size w wx → NeedsIn wx (.slice na L[i].nd.length nc) L[i].nd) := fun i hi => by
    obtain ⟨nv, k1, k2⟩ := h5 i hi
    have k2' := k2
    obtain ⟨na, _, _, nc, rfl, _⟩ := k2.ex
    exact ⟨na, nc, fun wx hx j u hj => (hx.cell (p := ⟨g, off + i * 3 + j, none⟩) (h3 (by omega)).2).trans (k1 j u hj), fun wx hx => k2'.keep (Nat.le_refl _) hx⟩
  obtain ⟨n, hn⟩ : ∃ n, n = L.length := ⟨_, rfl⟩
  have HN : Hid (n = L.length) := hn
  have hnn : L.length = n := hn.symm
  rw [hnn]
  rw [hnn] at h2 hl hfew
  have HPk2 : Hid (∀ wx, Below w.heap.size w wx → PacksIn wx (.slice pa n pc) L) := fun wx hx => by rw [hn]; exact HPk.out wx hx
  clear hL h3 h4 h5 hn hnn hnd hF hT HPk
  go_enter Tryz.func6, Tryz.ntmps6
  go_wp2_with fail
  refine hfew.mono ?_
  rintro e w1 ⟨b, rfl, hb, hw1⟩
  rw [hw1]
  clear hw1 hfew
  cases b with
  | false =>
    clear hb
    go_wp2
    go_ret
    exact ⟨rfl, Below.refl _ _⟩
  | true =>
    obtain ⟨hb1, hb2⟩ := hb rfl
    have hown := own_ok (L := L) w (HPk2.out w (Below.refl _ _)) (by have := HN.out; omega) (fun p hp => by have := hb2 p hp; omega)
    have HND : Hid (∀ p ∈ L, p.nd.length < 300) := hb2
    have hn300 : n < 300 := by have := HN.out; omega
    clear hb hb1 hb2 hl
    go_wp2_with fail
    refine hown.mono ?_
    rintro e w2 ⟨ov, D, rfl, hD, hO⟩
    have hri := right_ok (L := L) w2 (by have h := hO.packs; rw [hD] at h; exact h) HF.out (by have := HN.out; omega)
    have HB2 : Hid (Below w.heap.size w w2) := hO.old
    obtain ⟨oa, oc, rfl⟩ := slice_of hO.own
    obtain ⟨R, hR⟩ : ∃ R, R = rightL L := ⟨_, rfl⟩
    rw [← hR] at hri
    have HR : Hid (R = rightL L) := hR
    clear hown hD hO hR
    go_wp2_with fail
    refine hri.mono ?_
    rintro e w3 ⟨rfl, hb3⟩
    have HB3 : Hid (Below w.heap.size w w3) := HB2.out.trans (hb3.mono HB2.out.size)
    clear hri hb3
    by_cases hz : R = 0
    · have HR0 : Hid (rightL L = 0) := by show _ = _; rw [← HR.out]; exact hz
      subst hz
      have H0 : Hid (CnR w w3 L 0 [] (.slice none 0 0)) := ⟨World.ownsRow_nil _ _ _ _, List.nodup_nil, fun s => ⟨(fun h => by cases h), fun ⟨p, hp, _⟩ => by simp at hp⟩, HB3.out⟩
      go_wp2
      go_loopw [5, 6, 7] (fun cv sv iv wr => ∃ (i c : Nat) (S : List ByteArray), i ≤ n ∧ iv = .int .i64 i ∧ cv = .int .i64 c ∧ c ≤ 300 * i ∧ S.length ≤ i ∧ Hid (c = (S.map (cntN L)).sum) ∧ CnR w wr L i S sv) (fun _ _ iv _ => n - (intOf iv).toNat)
      case atStart => exact ⟨0, 0, [], Nat.zero_le _, rfl, rfl, Nat.le_refl _, Nat.le_refl _, rfl, H0.out⟩
      case round =>
        obtain ⟨i, c, S, hi, rfl, rfl, hc, hSi, HC, hCn⟩ := hrel
        have HCn : Hid (CnR w wr L i S u6) := hCn
        obtain ⟨sa, sc, rfl⟩ := slice_of hCn.own
        clear hCn H0
        by_cases hlt : i < n
        · have hlt' : (i : Int) < (n : Int) := by omega
          have hiL : i < L.length := by have := HN.out; omega
          obtain rfl := HA1.out (by omega)
          obtain ⟨na, nc, hrg0, _⟩ := HA5.out i hiL
          have HRG : Hid (∀ wx, Below w.heap.size w wx → wx.cell? ⟨g, off + i * 3, none⟩ = some (.string L[i].nm)) := fun wx hx => (pack_cell (hrg0 wx hx)).1
          obtain ⟨x, hx⟩ : ∃ x, x = L[i].nm := ⟨_, rfl⟩
          rw [← hx] at HRG
          have HX : Hid (x = L[i].nm) := hx
          obtain ⟨m, hm⟩ : ∃ m, m = S.length := ⟨_, rfl⟩
          have HM : Hid (m = S.length) := hm
          have hmm : S.length = m := hm.symm
          rw [hmm] at hSi
          have HSl : Hid (∀ wx, CnR w wx L i S (.slice sa S.length sc) → ∀ j (h : j < S.length), ∃ gs, sa = some ⟨gs, 0, none⟩ ∧ wx.cell? ⟨gs, j, none⟩ = some (.string S[j])) := fun wx hx j hj => by
            have h' := hx.own
            obtain ⟨_, ⟨h1, _⟩ | ⟨gs, cap, cur, h1, _⟩⟩ := hx.own
            · simp only [Value.slice.injEq] at h1
              omega
            · simp only [Value.slice.injEq] at h1
              obtain ⟨rfl, _, rfl⟩ := h1
              refine ⟨gs, rfl, ?_⟩
              rw [h'.cellAt j (by omega), List.getElem?_map, List.getElem?_eq_getElem hj]
              rfl
          obtain ⟨wE, rfl⟩ : ∃ x, x = wr := ⟨wr, rfl⟩
          rw [hmm]
          clear hx hm hmm hrg0
          go_wp2
          go_loopw [8, 9] (fun bv jv wi => ∃ (j : Nat) (b : Bool), j ≤ m ∧ jv = .int .i64 j ∧ bv = .bool b ∧ Below wE.heap.size wE wi ∧ Hid (AllNe b (S.take j) x)) (fun _ jv _ => m - (intOf jv).toNat)
          case atStart => exact ⟨0, true, Nat.zero_le _, rfl, rfl, Below.refl _ _, ⟨fun _ s hs => by simp at hs, fun _ => rfl⟩⟩
          case round =>
            obtain ⟨j, b, hj, rfl, rfl, hb, HJ⟩ := hrel
            have HB : Hid (Below wE.heap.size wE wr) := hb
            have HCr : Hid (CnR w wr L i S (.slice sa S.length sc)) := CnR.next HCn.out hb
            clear hb
            by_cases hjm : j < m
            · have hjm' : (j : Int) < (m : Int) := by omega
              have hjS : j < S.length := by have := HM.out; omega
              obtain ⟨gs, hsa, hcj⟩ := HSl.out wr HCr.out j hjS
              subst hsa
              obtain ⟨s, hs⟩ : ∃ s, s = S[j] := ⟨_, rfl⟩
              rw [← hs] at hcj
              have HTk : Hid (S.take (j + 1) = S.take j ++ [s]) := by show _ = _; rw [List.take_succ_eq_append_getElem hjS, hs]
              have hcx := HRG.out wr (CnR.old HCr.out)
              have HBn : Hid (∀ q, Below wE.heap.size wE (wr.drewN q)) := fun q => HB.out.trans ⟨rfl, rfl, rfl, Nat.le_refl _, fun _ _ => rfl⟩
              clear hs
              cases b with
              | true =>
                by_cases he : s = x
                · have HJ2 : Hid (AllNe false (S.take (j + 1)) x) := ⟨(fun h => by cases h), fun h => absurd he (h s (by rw [HTk.out]; simp))⟩
                  rw [he] at hcj
                  clear he
                  go_wp2
                  go_quiet (fail)
                  go_wp2
                  go_roundw
                  case rel => exact ⟨j + 1, false, by omega, by go_num, rfl, HBn.out _, HJ2⟩
                  case measure => simp [intOf]; omega
                · have hne1 : ¬ s.toList = x.toList := fun e => he (list_eq.1 e)
                  have hne2 : (s.toList == x.toList) = false := by simpa using hne1
                  have HJ2 : Hid (AllNe true (S.take (j + 1)) x) := ⟨fun h t ht => by
                    rw [HTk.out] at ht
                    rcases List.mem_append.1 ht with ht | ht
                    · exact HJ.out.1 h t ht
                    · rw [List.mem_singleton.1 ht]; exact he, fun _ => rfl⟩
                  clear he
                  go_wp2
                  go_quiet (fail)
                  go_wp2
                  go_roundw
                  case rel => exact ⟨j + 1, true, by omega, by go_num, rfl, HBn.out _, HJ2⟩
                  case measure => simp [intOf]; omega
              | false =>
                have HJ2 : Hid (AllNe false (S.take (j + 1)) x) := ⟨(fun h => by cases h), fun h => HJ.out.2 fun t ht => h t (by rw [HTk.out]; exact List.mem_append_left _ ht)⟩
                go_wp2
                go_quiet (fail)
                go_wp2
                go_roundw
                case rel => exact ⟨j + 1, false, by omega, by go_num, rfl, HBn.out _, HJ2⟩
                case measure => simp [intOf]; omega
            · have hjm' : ¬ (j : Int) < (m : Int) := by omega
              have HJS : Hid (b = true ↔ x ∉ S) := by
                have h : b = true ↔ ∀ s ∈ S.take j, s ≠ x := HJ.out
                rw [List.take_of_length_le (by have := HM.out; omega)] at h
                exact h.trans ⟨fun h hx => h x hx rfl, fun h s hs e => h (by rw [← e]; exact hs)⟩
              have HCm : Hid (CnR w wr L i S (.slice sa m sc)) := by rw [HM.out]; exact HCr.out
              cases b with
              | false =>
                have HSk : Hid (CnR w wr L (i + 1) S (.slice sa m sc)) := CnR.skip HCm.out hiL (by
                  rw [← HX.out]
                  by_cases h : x ∈ S
                  · exact h
                  · have := HJS.out.2 h; cases this)
                go_wp2
                go_roundw
                case rel => exact ⟨i + 1, c, S, by omega, by go_num, rfl, by omega, by have := HM.out; omega, HC, HSk.out⟩
                case measure => simp [intOf]; omega
              | true =>
                have hcx := HRG.out wr (CnR.old HCm.out)
                have hown4 : (wr.alloc (.cells #[.string x] 9)).ownsRow w.heap.size 9 1 (.slice sa m sc) m (S.map Value.string) := own_below (by have h := CnR.own HCm.out; rw [← HM.out] at h; exact h) ((Below.refl _ _).alloc (Nat.le_refl _) _)
                have hlow := (CnR.old HCm.out).size
                go_upto_region 15 with (at_builtin; refine wpList_ap_one rfl (some 55) rfl _ _ rfl w.heap.size (.slice sa m sc) m (S.map Value.string) rfl x rfl wr.heap.size rfl hown4 rfl hlow (by omega) ?_; intro v5 w5 ho5 hg5)
                have hb5 : Below w.heap.size w w5 := (CnR.old HCm.out).trans ((((Below.refl _ _).alloc (Nat.le_refl _) (.cells #[.string x] 9)).mono (CnR.old HCm.out).size).trans (below_own' hg5 (by simp; omega) fun k hk => (own_block hown4 k hk).1))
                have HC5 : Hid (CnR w w5 L (i + 1) (S ++ [x]) v5) := CnR.more HCm.out hiL HX.out (HJS.out.1 rfl) (by rw [← HM.out]; exact ho5) hb5
                have hcx5 := HRG.out w5 hb5
                have hvs := versions_ok x w5 (HPk2.out w5 hb5) (by have := HN.out; omega) HF.out (Pw.keep HT.out hb5 (Pw.lt HT.out))
                obtain ⟨q, hq⟩ : ∃ q, q = (verOf L x).length := ⟨_, rfl⟩
                have hql : q ≤ 300 := by have := verOf_len L x; have := HN.out; omega
                have HQ : Hid (q = cntN L x) := hq
                rw [← hq] at hvs
                clear hq ho5 hg5 hb5 hown4 hcx
                go_wp2_with fail
                refine hvs.mono ?_
                rintro e w6 ⟨qa, qc, rfl, hb6⟩
                have HC6 : Hid (CnR w w6 L (i + 1) (S ++ [x]) v5) := CnR.next HC5.out hb6
                have HS6 : Hid (c + q = ((S ++ [x]).map (cntN L)).sum) := by
                  show _ = _
                  rw [List.map_append, List.sum_append, HC.out, HQ.out]
                  simp
                clear hvs hb6 hcx5
                go_wp2
                go_roundw
                case rel => exact ⟨i + 1, c + q, S ++ [x], by omega, by go_num, by go_num, by omega, by rw [List.length_append]; have := HM.out; simp; omega, HS6, HC6.out⟩
                case measure => simp [intOf]; omega
        · have hlt' : ¬ (i : Int) < (n : Int) := by omega
          obtain rfl : i = n := by omega
          have HSum : Hid (c = i) := by
            show _ = _
            rw [HC.out, sum_cnt (CnR.nd HCn.out) L (fun p hp => ((CnR.mem HCn.out) p.nm).2 ⟨p, by rw [List.take_of_length_le (by have := HN.out; omega)]; exact hp, rfl⟩), HN.out]
          have hci := HSum.out
          subst hci
          have HBr : Hid (Below w.heap.size w wr) := CnR.old HCn.out
          have hvs := versions_ok ⟨#[110, 111, 110, 101]⟩ wr (HPk2.out wr HBr.out) (by have := HN.out; omega) HF.out (Pw.keep HT.out HBr.out (Pw.lt HT.out))
          obtain ⟨q, hq⟩ : ∃ q, q = (verOf L ⟨#[110, 111, 110, 101]⟩).length := ⟨_, rfl⟩
          rw [← hq] at hvs
          have HQ0 : Hid (¬ q = 0 → ¬ S.length = 0) := fun h0 hS => by
            have hLn : L ≠ [] := fun e => h0 (by rw [hq, e]; rfl)
            cases hL0 : L with
            | nil => exact hLn hL0
            | cons p r =>
              have hm := ((CnR.mem HCn.out) p.nm).2 ⟨p, by rw [List.take_of_length_le (by have := HN.out; omega), hL0]; simp, rfl⟩
              rw [List.eq_nil_of_length_eq_zero hS] at hm
              cases hm
          have hqb : q ≤ 300 := by have := verOf_len L ⟨#[110, 111, 110, 101]⟩; have := HN.out; omega
          obtain ⟨sl, hsl⟩ : ∃ sl, sl = S.length := ⟨_, rfl⟩
          rw [← hsl]
          rw [← hsl] at hSi HQ0
          clear hq hsl
          go_wp2_with fail
          refine hvs.mono ?_
          rintro e w6 ⟨qa, qc, rfl, hb6⟩
          have HB6 : Hid (Below w.heap.size w w6) := HBr.out.trans (hb6.mono HBr.out.size)
          clear hvs hb6
          have hpass : (¬ q = 0 ∧ ¬ sl = 0) ∨ q = 0 := by
            by_cases h : q = 0
            · exact Or.inr h
            · exact Or.inl ⟨h, HQ0.out h⟩
          rcases hpass with hq0 | hq0
          · obtain ⟨hq0, hs0⟩ := hq0
            have hs1 : ((sl : Int) == 0) = false := by simp; omega
            clear HQ0
            by_cases hc0 : c = 0
            · subst hc0
              omega
            · clear HC HR HSum
              have hcn : ¬ (c : Int) = 0 := by omega
              obtain ⟨j, hj, hjc⟩ : ∃ j : Nat, (wrap64 (k.tmod (c : Int) + (c : Int))).tmod (c : Int) = (j : Int) ∧ j < c := by
                have h1 := Int.tmod_lt_of_pos k (show (0 : Int) < c by omega)
                have h2 : -(c : Int) < k.tmod c := by
                  have := Int.tmod_lt_of_pos (-k) (show (0 : Int) < c by omega)
                  rw [Int.neg_tmod] at this
                  omega
                have h3 : 0 ≤ k.tmod c + c := by omega
                have hwp : wrap64 (k.tmod (c : Int) + (c : Int)) = k.tmod (c : Int) + (c : Int) := by
                  unfold wrap64
                  omega
                rw [hwp]
                have h4 := Int.tmod_nonneg (c : Int) h3
                have h5 := Int.tmod_lt_of_pos (k.tmod c + c) (show (0 : Int) < c by omega)
                exact ⟨((k.tmod c + c).tmod c).toNat, by omega, by omega⟩
              have hjL : j < L.length := by have := HN.out; omega
              obtain rfl := HA1.out (by omega)
              obtain ⟨na, nc, hrg0, hnin0⟩ := HA5.out j hjL
              obtain ⟨p, hp⟩ : ∃ p, p = L[j] := ⟨_, rfl⟩
              rw [← hp] at hrg0 hnin0
              have HP : Hid (p = L[j]) := hp
              have hpl : p.nd.length < 300 := HND.out p (by rw [hp]; exact List.getElem_mem _)
              obtain ⟨nl, hnl⟩ : ∃ nl, nl = p.nd.length := ⟨_, rfl⟩
              rw [← hnl] at hrg0 hnin0 hpl
              have HNl : Hid (nl = p.nd.length) := hnl
              have HRg : Hid (∀ wx, Below w.heap.size w wx → wx.rangeAt g (off + j * 3) (encP p (.slice na nl nc))) := hrg0
              have HNin : Hid (∀ wx, Below w.heap.size w wx → NeedsIn wx (.slice na nl nc) p.nd) := hnin0
              have HOwn : Hid (∀ wx, Below w.heap.size w wx → Calls Tryz.prog 13 #[.slice (some ⟨g, off, none⟩) c pc] wx fun e w' => ∃ (ov : Value) (D : List PV), e = .returned ov ∧ D.map (·.1) = L ∧ OwR wx w' D ov) := fun wx hx => own_ok (L := L) wx (HPk2.out wx hx) (by have := HN.out; omega) (fun p hp => by have := HND.out p hp; omega)
              have hj3 : (j : Int) < (c : Int) := by omega
              clear hp hnl hrg0 hnin0
              go_wp2_with fail
              try rw [hj]
              clear hj
              go_cut [11] (fun s11 wx => ∃ ta tc, s11 = .slice ta (c + 1) tc ∧ Hid (PacksIn wx (.slice ta (c + 1) tc) (L ++ [p])) ∧ Hid (Below w.heap.size w wx))
              case first =>
                have hS0 : Below w.heap.size w w6.drew := HB6.out.drew
                refine wp_region_dag2 [(false, 0), (false, 2), (false, 3), (false, 4), (false, 5)] #[true, false, true, true, true, true, false, false, false] 4 (fun wx => Below w.heap.size w wx) (by kernel_rfl) (by kernel_rfl) hS0 ?_
                refine a_move (some 98) _ rfl rfl rfl (by rfl) ?_
                simp only [Act.put, List.setIfInBounds_toArray, List.set_cons_zero, List.set_cons_succ]
                refine a_move (some 100) _ rfl rfl rfl (by rfl) ?_
                simp only [Act.put, List.setIfInBounds_toArray, List.set_cons_zero, List.set_cons_succ]
                refine a_move (some 101) _ rfl rfl rfl (by rfl) ?_
                simp only [Act.put, List.setIfInBounds_toArray, List.set_cons_zero, List.set_cons_succ]
                refine a_value (some 102) (.pointer (some ⟨g, off + j * 3, none⟩)) rfl rfl (by rfl) (fun wx hw => ?_) ?_
                · go_simp
                simp only [Act.put, List.setIfInBounds_toArray, List.set_cons_zero, List.set_cons_succ]
                refine a_load_mid (some 103) 44 _ rfl rfl rfl (by rfl) g (off + j * 3) rfl (encP p (.slice na nl nc)) _ (fun wx hw => HRg.out wx hw) Tryz.underlying44 rfl infoPk ?_
                simp only [Act.put, List.setIfInBounds_toArray, List.set_cons_zero, List.set_cons_succ]
                refine a_done ?_
                intro _
                refine d_two (i := 1) (j := 6) (by kernel_rfl) ?wayA ?wayB
                case wayA =>
                  refine d_call (some 99) rfl rfl (by rfl) 13 #[.slice (some ⟨g, off, none⟩) c pc] (by go_simp) (Calls.mono (HOwn.out _ hS0) ?_)
                  rintro er w7 ⟨ov, D7, rfl, hD7, hO7⟩
                  have hS7 : Below w.heap.size w w7 := hS0.trans (hO7.old.mono hS0.size)
                  refine ⟨ov, rfl, hS7, ?_⟩
                  simp only [Act.put, List.setIfInBounds_toArray, List.set_cons_zero, List.set_cons_succ]
                  refine d_one (i := 6) (by kernel_rfl) ?_
                  have hone := one_pk p.nm p.vr na nl nc w7
                  have hba : Below w7.heap.size w7 (w7.alloc (.cells #[.string p.nm, .string p.vr, .slice na nl nc] 44)) := (Below.refl _ _).alloc (Nat.le_refl _) _
                  have hS8 : Below w.heap.size w (w7.alloc (.cells #[.string p.nm, .string p.vr, .slice na nl nc] 44)) := hS7.alloc hS7.size _
                  refine d_alone (some 104) (.slice (some ⟨w7.heap.size, 0, none⟩) 1 1) (w7.alloc (.cells #[.string p.nm, .string p.vr, .slice na nl nc] 44)) rfl rfl (by rfl) (by go_simp) hS8 ?_
                  simp only [Act.put, List.setIfInBounds_toArray, List.set_cons_zero, List.set_cons_succ]
                  have hO8 := OwR.next hO7 hba
                  have hr8 : Row (w7.alloc (.cells #[.string p.nm, .string p.vr, .slice na nl nc] 44)) w7.heap.size #[.string p.nm, .string p.vr, .slice na nl nc] 44 := Row.new _ _ _
                  have hDc : D7.length = c := by have h := congrArg List.length hD7; rw [List.length_map] at h; have := HN.out; omega
                  obtain ⟨k8, hk8⟩ : ∃ k, k = w7.heap.size := ⟨_, rfl⟩
                  rw [← hk8] at hr8
                  rw [← hk8]
                  generalize w7.alloc (.cells #[.string p.nm, .string p.vr, .slice na nl nc] 44) = w8 at *
                  refine d_one (i := 7) (by kernel_rfl) ?_
                  refine d_wp (o := _) rfl (by rfl) (wp_append_any (some 105) rfl _ _ 22 44 (.agg zeroPk) 3 56 Tryz.underlying22 infoPkz rfl (by decide) rfl _ ov D7.length (flatD D7) rfl (OwR.own hO8) (some ⟨k8, 0, none⟩) k8 0 1 1 (encP p (.slice na nl nc)) rfl rfl (fun _ => rfl) (fun j u hj => by rw [Nat.zero_add, hr8.cell j, ← hj]; exact List.getElem?_toArray) (fun u hu => by simp at hu; rcases hu with rfl | rfl | rfl <;> rfl) (fun h => nomatch h) (by unfold maxLen; omega) (by omega) (OwR.old hO8).size ?_)
                  intro v9 w9 ho9 hg9 _
                  have hS9 : Below w.heap.size w w9 := hS8.trans (below_own' hg9 hS8.size fun k hk => Nat.le_trans hS0.size (own_block (OwR.own hO8) k hk).1)
                  have hpk := twice_packs hO8 (HNin.out w9 hS9) ho9 hg9
                  obtain ⟨ta, tc, rfl⟩ := slice_of ho9
                  refine ⟨hS9, ?_⟩
                  simp only [Act.put, List.setIfInBounds_toArray, List.set_cons_zero, List.set_cons_succ]
                  refine d_one (i := 8) (by kernel_rfl) ?_
                  refine d_alone (some 11) (.slice ta (D7.length + 1) tc) w9 rfl rfl (by rfl) (by go_simp) hS9 ?_
                  simp only [Act.put, List.setIfInBounds_toArray, List.set_cons_zero, List.set_cons_succ]
                  refine d_done (by kernel_rfl) ?_
                  rw [hD7, hDc] at hpk
                  rw [hDc]
                  have HZ : Hid (PacksIn w9 (.slice ta (c + 1) tc) (L ++ [p])) := hpk
                  have HS9 : Hid (Below w.heap.size w w9) := hS9
                  clear hpk hS9 ho9 hg9 hO8 hr8 hD7 hS8 hS7 hS0
                  try simp only [Exit.then]
                  go_wp2
                  go_meet
                  exact ⟨_, _, rfl, HZ, HS9⟩
                case wayB =>
                  have hone := one_pk p.nm p.vr na nl nc w6.drew
                  have hba : Below w6.drew.heap.size w6.drew (w6.drew.alloc (.cells #[.string p.nm, .string p.vr, .slice na nl nc] 44)) := (Below.refl _ _).alloc (Nat.le_refl _) _
                  have hS7 : Below w.heap.size w (w6.drew.alloc (.cells #[.string p.nm, .string p.vr, .slice na nl nc] 44)) := hS0.alloc hS0.size _
                  have hr7 : Row (w6.drew.alloc (.cells #[.string p.nm, .string p.vr, .slice na nl nc] 44)) w6.drew.heap.size #[.string p.nm, .string p.vr, .slice na nl nc] 44 := Row.new _ _ _
                  refine d_alone (some 104) (.slice (some ⟨w6.drew.heap.size, 0, none⟩) 1 1) (w6.drew.alloc (.cells #[.string p.nm, .string p.vr, .slice na nl nc] 44)) rfl rfl (by rfl) (by go_simp) hS7 ?_
                  simp only [Act.put, List.setIfInBounds_toArray, List.set_cons_zero, List.set_cons_succ]
                  obtain ⟨k8, hk8⟩ : ∃ k, k = w6.drew.heap.size := ⟨_, rfl⟩
                  rw [← hk8] at hr7
                  rw [← hk8]
                  clear hone hba
                  generalize w6.drew.alloc (.cells #[.string p.nm, .string p.vr, .slice na nl nc] 44) = w7 at *
                  refine d_one (i := 1) (by kernel_rfl) ?_
                  refine d_call (some 99) rfl rfl (by rfl) 13 #[.slice (some ⟨g, off, none⟩) c pc] (by go_simp) (Calls.mono (HOwn.out _ hS7) ?_)
                  rintro er w8 ⟨ov, D7, rfl, hD7, hO8⟩
                  have hS8 : Below w.heap.size w w8 := hS7.trans (hO8.old.mono hS7.size)
                  refine ⟨ov, rfl, hS8, ?_⟩
                  simp only [Act.put, List.setIfInBounds_toArray, List.set_cons_zero, List.set_cons_succ]
                  have hr8 : Row w8 k8 #[.string p.nm, .string p.vr, .slice na nl nc] 44 := hr7.below hO8.old hr7.lt
                  have hDc : D7.length = c := by have h := congrArg List.length hD7; rw [List.length_map] at h; have := HN.out; omega
                  refine d_one (i := 7) (by kernel_rfl) ?_
                  refine d_wp (o := _) rfl (by rfl) (wp_append_any (some 105) rfl _ _ 22 44 (.agg zeroPk) 3 56 Tryz.underlying22 infoPkz rfl (by decide) rfl _ ov D7.length (flatD D7) rfl (OwR.own hO8) (some ⟨k8, 0, none⟩) k8 0 1 1 (encP p (.slice na nl nc)) rfl rfl (fun _ => rfl) (fun j u hj => by rw [Nat.zero_add, hr8.cell j, ← hj]; exact List.getElem?_toArray) (fun u hu => by simp at hu; rcases hu with rfl | rfl | rfl <;> rfl) (fun h => nomatch h) (by unfold maxLen; omega) (by omega) (OwR.old hO8).size ?_)
                  intro v9 w9 ho9 hg9 _
                  have hS9 : Below w.heap.size w w9 := hS8.trans (below_own' hg9 hS8.size fun k hk => Nat.le_trans hS7.size (own_block (OwR.own hO8) k hk).1)
                  have hpk := twice_packs hO8 (HNin.out w9 hS9) ho9 hg9
                  obtain ⟨ta, tc, rfl⟩ := slice_of ho9
                  refine ⟨hS9, ?_⟩
                  simp only [Act.put, List.setIfInBounds_toArray, List.set_cons_zero, List.set_cons_succ]
                  refine d_one (i := 8) (by kernel_rfl) ?_
                  refine d_alone (some 11) (.slice ta (D7.length + 1) tc) w9 rfl rfl (by rfl) (by go_simp) hS9 ?_
                  simp only [Act.put, List.setIfInBounds_toArray, List.set_cons_zero, List.set_cons_succ]
                  refine d_done (by kernel_rfl) ?_
                  rw [hD7, hDc] at hpk
                  rw [hDc]
                  have HZ : Hid (PacksIn w9 (.slice ta (c + 1) tc) (L ++ [p])) := hpk
                  have HS9 : Hid (Below w.heap.size w w9) := hS9
                  clear hpk hS9 ho9 hg9 hO8 hr8 hD7 hS8 hS7 hS0
                  try simp only [Exit.then]
                  go_wp2
                  go_meet
                  exact ⟨_, _, rfl, HZ, HS9⟩
              case rest =>
                obtain ⟨ta, tc, rfl, HZ, HBc⟩ := hcut
                go_wp2_with fail
                refine (HOwn.out wc HBc.out).mono ?_
                rintro e w7 ⟨ov2, D2, rfl, hD2, hO2⟩
                have hDc : D2.length = c := by have h := congrArg List.length hD2; rw [List.length_map] at h; have := HN.out; omega
                have hj2 : j < D2.length := by omega
                obtain ⟨go, hgo⟩ := own_some hO2 (by omega)
                obtain ⟨oc2, rfl, hc8⟩ := own_cell hO2 hgo hj2
                have HO2 : Hid (OwR wc w7 D2 (.slice (some ⟨go, 0, none⟩) D2.length oc2)) := hO2
                have HD2 : Hid (D2.map (·.1) = L) := hD2
                have hp2 : D2[j].1 = L[j] := by have h := congrArg (fun l => l[j]?) hD2; simp only [List.getElem?_map, List.getElem?_eq_getElem hj2, List.getElem?_eq_getElem hjL, Option.map_some, Option.some.injEq] at h; exact h
                have hba : Below w7.heap.size w7 (w7.alloc (.cells #[.string ⟨#[110, 111, 110, 101]⟩, .string ⟨#[42]⟩, .string ⟨#[110, 111, 110, 101]⟩, .string ⟨#[42]⟩] 46)) := (Below.refl _ _).alloc (Nat.le_refl _) _
                have hnd := own_below (hO2.nds D2[j] (List.getElem_mem hj2)) hba
                rw [hp2, ← HP.out] at hnd
                obtain ⟨dv, hdv⟩ : ∃ dv, dv = D2[j].2 := ⟨_, rfl⟩
                rw [← hdv] at hnd hc8
                have HDv : Hid (dv = D2[j].2) := hdv
                rw [← HNl.out] at hnd
                have HNd : Hid ((w7.alloc (.cells #[.string ⟨#[110, 111, 110, 101]⟩, .string ⟨#[42]⟩, .string ⟨#[110, 111, 110, 101]⟩, .string ⟨#[42]⟩] 46)).ownsRow wc.heap.size 46 2 dv nl (flatN p.nd)) := hnd
                have HBA : Hid (Below w7.heap.size w7 (w7.alloc (.cells #[.string ⟨#[110, 111, 110, 101]⟩, .string ⟨#[42]⟩, .string ⟨#[110, 111, 110, 101]⟩, .string ⟨#[42]⟩] 46))) := hba
                have HOl : Hid (wc.heap.size ≤ w7.heap.size) := hO2.old.size
                have hrx : Row (w7.alloc (.cells #[.string ⟨#[110, 111, 110, 101]⟩, .string ⟨#[42]⟩, .string ⟨#[110, 111, 110, 101]⟩, .string ⟨#[42]⟩] 46)) w7.heap.size #[.string ⟨#[110, 111, 110, 101]⟩, .string ⟨#[42]⟩, .string ⟨#[110, 111, 110, 101]⟩, .string ⟨#[42]⟩] 46 := Row.new _ _ _
                have HRx : Hid (∀ (q : Nat) u, (flatN [noneN, noneN])[q]? = some u → (w7.alloc (.cells #[.string ⟨#[110, 111, 110, 101]⟩, .string ⟨#[42]⟩, .string ⟨#[110, 111, 110, 101]⟩, .string ⟨#[42]⟩] 46)).cell? ⟨w7.heap.size, 0 + q, none⟩ = some u) := fun q u hq => by
                  rw [Nat.zero_add, hrx.cell q, ← hq]
                  exact List.getElem?_toArray
                have htwo := two_nd w7
                have HDc : Hid (D2.length = c) := hDc
                rw [hDc]
                clear hD2 hO2 hp2 hba hnd hdv hrx hgo hDc
                go_upto_region 24 with (at_builtin; refine wpList_plain rfl fun K' hK' => ?_; refine wp_append_any (some 118) rfl _ _ 42 46 (.agg zeroNd) 2 32 Tryz.underlying42 infoNdz rfl (by decide) rfl wc.heap.size dv nl (flatN p.nd) rfl HNd.out (some ⟨w7.heap.size, 0, none⟩) w7.heap.size 0 2 2 (flatN [noneN, noneN]) rfl rfl (fun _ => rfl) HRx.out two_one (fun h => nomatch h) (by unfold maxLen; omega) (by omega) (by have := HBA.out.size; have := HOl.out; omega) ?_; intro v6 w6 ho6 hg6 _; refine hK' _ _ ?_; rw [HDv.out] at hg6; have har := again_row HO2.out hj2 HBA.out hg6; have hal := again_all HO2.out HD2.out hjL hj2 HBA.out (by rw [← HP.out, ← HNl.out]; exact ho6) hg6; obtain ⟨ta6, tc6, hv6⟩ := slice_of ho6; have cz := har.2.1; rw [← HDv.out] at cz; have fz := har.2.2.1; have cz2 := har.2.2.2 v6; have HAL : Hid _ := hal; subst hv6; clear ho6 hg6 har hal)
                have hal := HAL.out
                rw [HDc.out] at hal
                obtain ⟨m, hm⟩ : ∃ m, m = nl + 2 := ⟨_, rfl⟩
                obtain ⟨c1, hc1⟩ : ∃ c1, c1 = c + 1 := ⟨_, rfl⟩
                have HM : Hid (m = nl + 2) := hm
                have HC1 : Hid (c1 = c + 1) := hc1
                have hz1 := HZ.out
                rw [← hc1] at hz1
                rw [← hm] at hal cz2
                rw [← hm, ← hc1]
                obtain ⟨wz, hwz⟩ : ∃ x, x = w6.setCell ⟨go, j * 3 + 2, none⟩ (.slice ta6 m tc6) := ⟨_, rfl⟩
                rw [← hwz] at hal cz2
                rw [← hwz]
                have HPz : Hid (PacksIn wz (.slice ta c1 tc) (L ++ [p])) := hz1.keep (Nat.le_refl _) hal.2
                have HAl : Hid (PacksIn wz (.slice (some ⟨go, 0, none⟩) c oc2) (L.set j ⟨L[j].nm, L[j].vr, L[j].nd ++ [noneN, noneN]⟩)) := hal.1
                have HBz : Hid (Below w.heap.size w wz) := HBc.out.trans (hal.2.mono HBc.out.size)
                clear hal hz1 hm hc1 hwz HAL htwo cz fz hc8
                by_cases h64 : 64 < m
                · have h64' : (64 : Int) < (m : Int) := by omega
                  go_wp2
                  go_ret
                  exact ⟨rfl, HBz.out⟩
                · have h64' : ¬ (64 : Int) < (m : Int) := by omega
                  have h10' : ¬ (1024 : Int) < (c1 : Int) := by have := HC1.out; omega
                  have hpm : p ∈ L := by rw [HP.out]; exact List.getElem_mem _
                  have hr1 := right_ok (L := L ++ [p]) wz HPz.out (fit_snoc HF.out hpm) (by rw [List.length_append, List.length_singleton]; have := HN.out; omega)
                  rw [twice_bad HR0.out hpm (by have := HN.out; omega)] at hr1
                  clear hpm
                  go_wp2_with fail
                  refine hr1.mono ?_
                  rintro e w10 ⟨rfl, hb10⟩
                  have hr2 := right_ok (L := L.set j ⟨L[j].nm, L[j].vr, L[j].nd ++ [noneN, noneN]⟩) w10 (HAl.out.keep (Nat.le_refl _) hb10) (fit_set HF.out hjL) (by rw [List.length_set]; have := HN.out; omega)
                  rw [again_bad HR0.out hjL (by rw [← HP.out, ← HNl.out]; have := HM.out; omega)] at hr2
                  have HB10 : Hid (Below w.heap.size w w10) := HBz.out.trans (hb10.mono HBz.out.size)
                  clear hr1 hb10
                  go_wp2_with fail
                  refine hr2.mono ?_
                  rintro e w11 ⟨rfl, hb11⟩
                  have HB11 : Hid (Below w.heap.size w w11) := HB10.out.trans (hb11.mono HB10.out.size)
                  clear hr2 hb11
                  go_wp2
                  go_ret
                  exact ⟨rfl, HB11.out⟩
          · clear HQ0
            by_cases hc0 : c = 0
            · subst hc0
              have hone := one_pk ⟨#[65]⟩ ⟨#[49]⟩ none 0 0 w6
              have hri9 := right_ok (L := [⟨⟨#[65]⟩, ⟨#[49]⟩, []⟩]) _ (one_in w6 ⟨#[65]⟩ ⟨#[49]⟩) (fun p hp => by rw [List.mem_singleton.1 hp]; exact ⟨by show 1 ≤ _; omega, by show 1 ≤ _; omega, fun n hn => nomatch hn⟩) (by simp)
              rw [wrong_name] at hri9
              go_wp2_with fail
              refine hri9.mono ?_
              rintro e w9 ⟨rfl, hb9⟩
              have HB9 : Hid (Below w.heap.size w w9) := HB6.out.trans ((((Below.refl _ _).alloc (Nat.le_refl _) _).trans (hb9.mono (by simp))).mono HB6.out.size)
              clear hri9 hb9 hone
              go_wp2
              go_ret
              exact ⟨rfl, HB9.out⟩
            · clear HC HR HSum
              have hcn : ¬ (c : Int) = 0 := by omega
              obtain ⟨j, hj, hjc⟩ : ∃ j : Nat, (wrap64 (k.tmod (c : Int) + (c : Int))).tmod (c : Int) = (j : Int) ∧ j < c := by
                have h1 := Int.tmod_lt_of_pos k (show (0 : Int) < c by omega)
                have h2 : -(c : Int) < k.tmod c := by
                  have := Int.tmod_lt_of_pos (-k) (show (0 : Int) < c by omega)
                  rw [Int.neg_tmod] at this
                  omega
                have h3 : 0 ≤ k.tmod c + c := by omega
                have hwp : wrap64 (k.tmod (c : Int) + (c : Int)) = k.tmod (c : Int) + (c : Int) := by
                  unfold wrap64
                  omega
                rw [hwp]
                have h4 := Int.tmod_nonneg (c : Int) h3
                have h5 := Int.tmod_lt_of_pos (k.tmod c + c) (show (0 : Int) < c by omega)
                exact ⟨((k.tmod c + c).tmod c).toNat, by omega, by omega⟩
              have hjL : j < L.length := by have := HN.out; omega
              obtain rfl := HA1.out (by omega)
              obtain ⟨na, nc, hrg0, hnin0⟩ := HA5.out j hjL
              obtain ⟨p, hp⟩ : ∃ p, p = L[j] := ⟨_, rfl⟩
              rw [← hp] at hrg0 hnin0
              have HP : Hid (p = L[j]) := hp
              have hpl : p.nd.length < 300 := HND.out p (by rw [hp]; exact List.getElem_mem _)
              obtain ⟨nl, hnl⟩ : ∃ nl, nl = p.nd.length := ⟨_, rfl⟩
              rw [← hnl] at hrg0 hnin0 hpl
              have HNl : Hid (nl = p.nd.length) := hnl
              have HRg : Hid (∀ wx, Below w.heap.size w wx → wx.rangeAt g (off + j * 3) (encP p (.slice na nl nc))) := hrg0
              have HNin : Hid (∀ wx, Below w.heap.size w wx → NeedsIn wx (.slice na nl nc) p.nd) := hnin0
              have HOwn : Hid (∀ wx, Below w.heap.size w wx → Calls Tryz.prog 13 #[.slice (some ⟨g, off, none⟩) c pc] wx fun e w' => ∃ (ov : Value) (D : List PV), e = .returned ov ∧ D.map (·.1) = L ∧ OwR wx w' D ov) := fun wx hx => own_ok (L := L) wx (HPk2.out wx hx) (by have := HN.out; omega) (fun p hp => by have := HND.out p hp; omega)
              have hj3 : (j : Int) < (c : Int) := by omega
              clear hp hnl hrg0 hnin0
              go_wp2_with fail
              try rw [hj]
              clear hj
              go_cut [11] (fun s11 wx => ∃ ta tc, s11 = .slice ta (c + 1) tc ∧ Hid (PacksIn wx (.slice ta (c + 1) tc) (L ++ [p])) ∧ Hid (Below w.heap.size w wx))
              case first =>
                have hS0 : Below w.heap.size w w6.drew := HB6.out.drew
                refine wp_region_dag2 [(false, 0), (false, 2), (false, 3), (false, 4), (false, 5)] #[true, false, true, true, true, true, false, false, false] 4 (fun wx => Below w.heap.size w wx) (by kernel_rfl) (by kernel_rfl) hS0 ?_
                refine a_move (some 98) _ rfl rfl rfl (by rfl) ?_
                simp only [Act.put, List.setIfInBounds_toArray, List.set_cons_zero, List.set_cons_succ]
                refine a_move (some 100) _ rfl rfl rfl (by rfl) ?_
                simp only [Act.put, List.setIfInBounds_toArray, List.set_cons_zero, List.set_cons_succ]
                refine a_move (some 101) _ rfl rfl rfl (by rfl) ?_
                simp only [Act.put, List.setIfInBounds_toArray, List.set_cons_zero, List.set_cons_succ]
                refine a_value (some 102) (.pointer (some ⟨g, off + j * 3, none⟩)) rfl rfl (by rfl) (fun wx hw => ?_) ?_
                · go_simp
                simp only [Act.put, List.setIfInBounds_toArray, List.set_cons_zero, List.set_cons_succ]
                refine a_load_mid (some 103) 44 _ rfl rfl rfl (by rfl) g (off + j * 3) rfl (encP p (.slice na nl nc)) _ (fun wx hw => HRg.out wx hw) Tryz.underlying44 rfl infoPk ?_
                simp only [Act.put, List.setIfInBounds_toArray, List.set_cons_zero, List.set_cons_succ]
                refine a_done ?_
                intro _
                refine d_two (i := 1) (j := 6) (by kernel_rfl) ?wayA ?wayB
                case wayA =>
                  refine d_call (some 99) rfl rfl (by rfl) 13 #[.slice (some ⟨g, off, none⟩) c pc] (by go_simp) (Calls.mono (HOwn.out _ hS0) ?_)
                  rintro er w7 ⟨ov, D7, rfl, hD7, hO7⟩
                  have hS7 : Below w.heap.size w w7 := hS0.trans (hO7.old.mono hS0.size)
                  refine ⟨ov, rfl, hS7, ?_⟩
                  simp only [Act.put, List.setIfInBounds_toArray, List.set_cons_zero, List.set_cons_succ]
                  refine d_one (i := 6) (by kernel_rfl) ?_
                  have hone := one_pk p.nm p.vr na nl nc w7
                  have hba : Below w7.heap.size w7 (w7.alloc (.cells #[.string p.nm, .string p.vr, .slice na nl nc] 44)) := (Below.refl _ _).alloc (Nat.le_refl _) _
                  have hS8 : Below w.heap.size w (w7.alloc (.cells #[.string p.nm, .string p.vr, .slice na nl nc] 44)) := hS7.alloc hS7.size _
                  refine d_alone (some 104) (.slice (some ⟨w7.heap.size, 0, none⟩) 1 1) (w7.alloc (.cells #[.string p.nm, .string p.vr, .slice na nl nc] 44)) rfl rfl (by rfl) (by go_simp) hS8 ?_
                  simp only [Act.put, List.setIfInBounds_toArray, List.set_cons_zero, List.set_cons_succ]
                  have hO8 := OwR.next hO7 hba
                  have hr8 : Row (w7.alloc (.cells #[.string p.nm, .string p.vr, .slice na nl nc] 44)) w7.heap.size #[.string p.nm, .string p.vr, .slice na nl nc] 44 := Row.new _ _ _
                  have hDc : D7.length = c := by have h := congrArg List.length hD7; rw [List.length_map] at h; have := HN.out; omega
                  obtain ⟨k8, hk8⟩ : ∃ k, k = w7.heap.size := ⟨_, rfl⟩
                  rw [← hk8] at hr8
                  rw [← hk8]
                  generalize w7.alloc (.cells #[.string p.nm, .string p.vr, .slice na nl nc] 44) = w8 at *
                  refine d_one (i := 7) (by kernel_rfl) ?_
                  refine d_wp (o := _) rfl (by rfl) (wp_append_any (some 105) rfl _ _ 22 44 (.agg zeroPk) 3 56 Tryz.underlying22 infoPkz rfl (by decide) rfl _ ov D7.length (flatD D7) rfl (OwR.own hO8) (some ⟨k8, 0, none⟩) k8 0 1 1 (encP p (.slice na nl nc)) rfl rfl (fun _ => rfl) (fun j u hj => by rw [Nat.zero_add, hr8.cell j, ← hj]; exact List.getElem?_toArray) (fun u hu => by simp at hu; rcases hu with rfl | rfl | rfl <;> rfl) (fun h => nomatch h) (by unfold maxLen; omega) (by omega) (OwR.old hO8).size ?_)
                  intro v9 w9 ho9 hg9 _
                  have hS9 : Below w.heap.size w w9 := hS8.trans (below_own' hg9 hS8.size fun k hk => Nat.le_trans hS0.size (own_block (OwR.own hO8) k hk).1)
                  have hpk := twice_packs hO8 (HNin.out w9 hS9) ho9 hg9
                  obtain ⟨ta, tc, rfl⟩ := slice_of ho9
                  refine ⟨hS9, ?_⟩
                  simp only [Act.put, List.setIfInBounds_toArray, List.set_cons_zero, List.set_cons_succ]
                  refine d_one (i := 8) (by kernel_rfl) ?_
                  refine d_alone (some 11) (.slice ta (D7.length + 1) tc) w9 rfl rfl (by rfl) (by go_simp) hS9 ?_
                  simp only [Act.put, List.setIfInBounds_toArray, List.set_cons_zero, List.set_cons_succ]
                  refine d_done (by kernel_rfl) ?_
                  rw [hD7, hDc] at hpk
                  rw [hDc]
                  have HZ : Hid (PacksIn w9 (.slice ta (c + 1) tc) (L ++ [p])) := hpk
                  have HS9 : Hid (Below w.heap.size w w9) := hS9
                  clear hpk hS9 ho9 hg9 hO8 hr8 hD7 hS8 hS7 hS0
                  try simp only [Exit.then]
                  go_wp2
                  go_meet
                  exact ⟨_, _, rfl, HZ, HS9⟩
                case wayB =>
                  have hone := one_pk p.nm p.vr na nl nc w6.drew
                  have hba : Below w6.drew.heap.size w6.drew (w6.drew.alloc (.cells #[.string p.nm, .string p.vr, .slice na nl nc] 44)) := (Below.refl _ _).alloc (Nat.le_refl _) _
                  have hS7 : Below w.heap.size w (w6.drew.alloc (.cells #[.string p.nm, .string p.vr, .slice na nl nc] 44)) := hS0.alloc hS0.size _
                  have hr7 : Row (w6.drew.alloc (.cells #[.string p.nm, .string p.vr, .slice na nl nc] 44)) w6.drew.heap.size #[.string p.nm, .string p.vr, .slice na nl nc] 44 := Row.new _ _ _
                  refine d_alone (some 104) (.slice (some ⟨w6.drew.heap.size, 0, none⟩) 1 1) (w6.drew.alloc (.cells #[.string p.nm, .string p.vr, .slice na nl nc] 44)) rfl rfl (by rfl) (by go_simp) hS7 ?_
                  simp only [Act.put, List.setIfInBounds_toArray, List.set_cons_zero, List.set_cons_succ]
                  obtain ⟨k8, hk8⟩ : ∃ k, k = w6.drew.heap.size := ⟨_, rfl⟩
                  rw [← hk8] at hr7
                  rw [← hk8]
                  clear hone hba
                  generalize w6.drew.alloc (.cells #[.string p.nm, .string p.vr, .slice na nl nc] 44) = w7 at *
                  refine d_one (i := 1) (by kernel_rfl) ?_
                  refine d_call (some 99) rfl rfl (by rfl) 13 #[.slice (some ⟨g, off, none⟩) c pc] (by go_simp) (Calls.mono (HOwn.out _ hS7) ?_)
                  rintro er w8 ⟨ov, D7, rfl, hD7, hO8⟩
                  have hS8 : Below w.heap.size w w8 := hS7.trans (hO8.old.mono hS7.size)
                  refine ⟨ov, rfl, hS8, ?_⟩
                  simp only [Act.put, List.setIfInBounds_toArray, List.set_cons_zero, List.set_cons_succ]
                  have hr8 : Row w8 k8 #[.string p.nm, .string p.vr, .slice na nl nc] 44 := hr7.below hO8.old hr7.lt
                  have hDc : D7.length = c := by have h := congrArg List.length hD7; rw [List.length_map] at h; have := HN.out; omega
                  refine d_one (i := 7) (by kernel_rfl) ?_
                  refine d_wp (o := _) rfl (by rfl) (wp_append_any (some 105) rfl _ _ 22 44 (.agg zeroPk) 3 56 Tryz.underlying22 infoPkz rfl (by decide) rfl _ ov D7.length (flatD D7) rfl (OwR.own hO8) (some ⟨k8, 0, none⟩) k8 0 1 1 (encP p (.slice na nl nc)) rfl rfl (fun _ => rfl) (fun j u hj => by rw [Nat.zero_add, hr8.cell j, ← hj]; exact List.getElem?_toArray) (fun u hu => by simp at hu; rcases hu with rfl | rfl | rfl <;> rfl) (fun h => nomatch h) (by unfold maxLen; omega) (by omega) (OwR.old hO8).size ?_)
                  intro v9 w9 ho9 hg9 _
                  have hS9 : Below w.heap.size w w9 := hS8.trans (below_own' hg9 hS8.size fun k hk => Nat.le_trans hS7.size (own_block (OwR.own hO8) k hk).1)
                  have hpk := twice_packs hO8 (HNin.out w9 hS9) ho9 hg9
                  obtain ⟨ta, tc, rfl⟩ := slice_of ho9
                  refine ⟨hS9, ?_⟩
                  simp only [Act.put, List.setIfInBounds_toArray, List.set_cons_zero, List.set_cons_succ]
                  refine d_one (i := 8) (by kernel_rfl) ?_
                  refine d_alone (some 11) (.slice ta (D7.length + 1) tc) w9 rfl rfl (by rfl) (by go_simp) hS9 ?_
                  simp only [Act.put, List.setIfInBounds_toArray, List.set_cons_zero, List.set_cons_succ]
                  refine d_done (by kernel_rfl) ?_
                  rw [hD7, hDc] at hpk
                  rw [hDc]
                  have HZ : Hid (PacksIn w9 (.slice ta (c + 1) tc) (L ++ [p])) := hpk
                  have HS9 : Hid (Below w.heap.size w w9) := hS9
                  clear hpk hS9 ho9 hg9 hO8 hr8 hD7 hS8 hS7 hS0
                  try simp only [Exit.then]
                  go_wp2
                  go_meet
                  exact ⟨_, _, rfl, HZ, HS9⟩
              case rest =>
                obtain ⟨ta, tc, rfl, HZ, HBc⟩ := hcut
                go_wp2_with fail
                refine (HOwn.out wc HBc.out).mono ?_
                rintro e w7 ⟨ov2, D2, rfl, hD2, hO2⟩
                have hDc : D2.length = c := by have h := congrArg List.length hD2; rw [List.length_map] at h; have := HN.out; omega
                have hj2 : j < D2.length := by omega
                obtain ⟨go, hgo⟩ := own_some hO2 (by omega)
                obtain ⟨oc2, rfl, hc8⟩ := own_cell hO2 hgo hj2
                have HO2 : Hid (OwR wc w7 D2 (.slice (some ⟨go, 0, none⟩) D2.length oc2)) := hO2
                have HD2 : Hid (D2.map (·.1) = L) := hD2
                have hp2 : D2[j].1 = L[j] := by have h := congrArg (fun l => l[j]?) hD2; simp only [List.getElem?_map, List.getElem?_eq_getElem hj2, List.getElem?_eq_getElem hjL, Option.map_some, Option.some.injEq] at h; exact h
                have hba : Below w7.heap.size w7 (w7.alloc (.cells #[.string ⟨#[110, 111, 110, 101]⟩, .string ⟨#[42]⟩, .string ⟨#[110, 111, 110, 101]⟩, .string ⟨#[42]⟩] 46)) := (Below.refl _ _).alloc (Nat.le_refl _) _
                have hnd := own_below (hO2.nds D2[j] (List.getElem_mem hj2)) hba
                rw [hp2, ← HP.out] at hnd
                obtain ⟨dv, hdv⟩ : ∃ dv, dv = D2[j].2 := ⟨_, rfl⟩
                rw [← hdv] at hnd hc8
                have HDv : Hid (dv = D2[j].2) := hdv
                rw [← HNl.out] at hnd
                have HNd : Hid ((w7.alloc (.cells #[.string ⟨#[110, 111, 110, 101]⟩, .string ⟨#[42]⟩, .string ⟨#[110, 111, 110, 101]⟩, .string ⟨#[42]⟩] 46)).ownsRow wc.heap.size 46 2 dv nl (flatN p.nd)) := hnd
                have HBA : Hid (Below w7.heap.size w7 (w7.alloc (.cells #[.string ⟨#[110, 111, 110, 101]⟩, .string ⟨#[42]⟩, .string ⟨#[110, 111, 110, 101]⟩, .string ⟨#[42]⟩] 46))) := hba
                have HOl : Hid (wc.heap.size ≤ w7.heap.size) := hO2.old.size
                have hrx : Row (w7.alloc (.cells #[.string ⟨#[110, 111, 110, 101]⟩, .string ⟨#[42]⟩, .string ⟨#[110, 111, 110, 101]⟩, .string ⟨#[42]⟩] 46)) w7.heap.size #[.string ⟨#[110, 111, 110, 101]⟩, .string ⟨#[42]⟩, .string ⟨#[110, 111, 110, 101]⟩, .string ⟨#[42]⟩] 46 := Row.new _ _ _
                have HRx : Hid (∀ (q : Nat) u, (flatN [noneN, noneN])[q]? = some u → (w7.alloc (.cells #[.string ⟨#[110, 111, 110, 101]⟩, .string ⟨#[42]⟩, .string ⟨#[110, 111, 110, 101]⟩, .string ⟨#[42]⟩] 46)).cell? ⟨w7.heap.size, 0 + q, none⟩ = some u) := fun q u hq => by
                  rw [Nat.zero_add, hrx.cell q, ← hq]
                  exact List.getElem?_toArray
                have htwo := two_nd w7
                have HDc : Hid (D2.length = c) := hDc
                rw [hDc]
                clear hD2 hO2 hp2 hba hnd hdv hrx hgo hDc
                go_upto_region 24 with (at_builtin; refine wpList_plain rfl fun K' hK' => ?_; refine wp_append_any (some 118) rfl _ _ 42 46 (.agg zeroNd) 2 32 Tryz.underlying42 infoNdz rfl (by decide) rfl wc.heap.size dv nl (flatN p.nd) rfl HNd.out (some ⟨w7.heap.size, 0, none⟩) w7.heap.size 0 2 2 (flatN [noneN, noneN]) rfl rfl (fun _ => rfl) HRx.out two_one (fun h => nomatch h) (by unfold maxLen; omega) (by omega) (by have := HBA.out.size; have := HOl.out; omega) ?_; intro v6 w6 ho6 hg6 _; refine hK' _ _ ?_; rw [HDv.out] at hg6; have har := again_row HO2.out hj2 HBA.out hg6; have hal := again_all HO2.out HD2.out hjL hj2 HBA.out (by rw [← HP.out, ← HNl.out]; exact ho6) hg6; obtain ⟨ta6, tc6, hv6⟩ := slice_of ho6; have cz := har.2.1; rw [← HDv.out] at cz; have fz := har.2.2.1; have cz2 := har.2.2.2 v6; have HAL : Hid _ := hal; subst hv6; clear ho6 hg6 har hal)
                have hal := HAL.out
                rw [HDc.out] at hal
                obtain ⟨m, hm⟩ : ∃ m, m = nl + 2 := ⟨_, rfl⟩
                obtain ⟨c1, hc1⟩ : ∃ c1, c1 = c + 1 := ⟨_, rfl⟩
                have HM : Hid (m = nl + 2) := hm
                have HC1 : Hid (c1 = c + 1) := hc1
                have hz1 := HZ.out
                rw [← hc1] at hz1
                rw [← hm] at hal cz2
                rw [← hm, ← hc1]
                obtain ⟨wz, hwz⟩ : ∃ x, x = w6.setCell ⟨go, j * 3 + 2, none⟩ (.slice ta6 m tc6) := ⟨_, rfl⟩
                rw [← hwz] at hal cz2
                rw [← hwz]
                have HPz : Hid (PacksIn wz (.slice ta c1 tc) (L ++ [p])) := hz1.keep (Nat.le_refl _) hal.2
                have HAl : Hid (PacksIn wz (.slice (some ⟨go, 0, none⟩) c oc2) (L.set j ⟨L[j].nm, L[j].vr, L[j].nd ++ [noneN, noneN]⟩)) := hal.1
                have HBz : Hid (Below w.heap.size w wz) := HBc.out.trans (hal.2.mono HBc.out.size)
                clear hal hz1 hm hc1 hwz HAL htwo cz fz hc8
                by_cases h64 : 64 < m
                · have h64' : (64 : Int) < (m : Int) := by omega
                  go_wp2
                  go_ret
                  exact ⟨rfl, HBz.out⟩
                · have h64' : ¬ (64 : Int) < (m : Int) := by omega
                  have h10' : ¬ (1024 : Int) < (c1 : Int) := by have := HC1.out; omega
                  have hpm : p ∈ L := by rw [HP.out]; exact List.getElem_mem _
                  have hr1 := right_ok (L := L ++ [p]) wz HPz.out (fit_snoc HF.out hpm) (by rw [List.length_append, List.length_singleton]; have := HN.out; omega)
                  rw [twice_bad HR0.out hpm (by have := HN.out; omega)] at hr1
                  clear hpm
                  go_wp2_with fail
                  refine hr1.mono ?_
                  rintro e w10 ⟨rfl, hb10⟩
                  have hr2 := right_ok (L := L.set j ⟨L[j].nm, L[j].vr, L[j].nd ++ [noneN, noneN]⟩) w10 (HAl.out.keep (Nat.le_refl _) hb10) (fit_set HF.out hjL) (by rw [List.length_set]; have := HN.out; omega)
                  rw [again_bad HR0.out hjL (by rw [← HP.out, ← HNl.out]; have := HM.out; omega)] at hr2
                  have HB10 : Hid (Below w.heap.size w w10) := HBz.out.trans (hb10.mono HBz.out.size)
                  clear hr1 hb10
                  go_wp2_with fail
                  refine hr2.mono ?_
                  rintro e w11 ⟨rfl, hb11⟩
                  have HB11 : Hid (Below w.heap.size w w11) := HB10.out.trans (hb11.mono HB10.out.size)
                  clear hr2 hb11
                  go_wp2
                  go_ret
                  exact ⟨rfl, HB11.out⟩
    · have hzb := beqI hz
      go_wp2
      go_ret
      exact ⟨rfl, HB3.out⟩
end Go.Proofs.YtdhmlcelofnkgaaGreatDoor
