/- My own work: what is wrong with wants; picks that rise; what a solution is. My own work: the law IndexCounts. My own work: what is wrong with packages and wants; whether picks rise. My own work: the document's Wrong. My own work: the document's Has. My own work: the document's pick, needs and met. My own work: the document's Names: as many texts as packages at the most. My own work: maps keyed by texts or by picks, as lists of keys and values. My own work: chosenPacks: picks' packages as a map. My own work: the walk of chosenPacks. My own work: sought: a need's range as a closure. My own work: what holds while solves goes through needs. -/
import Derived.Test.YtkbhckjpmgkgjaaGreatDoorXE
import Derived.Test.YtkbhckjpmgkgjaaGreatDoorDag2
import Derived.Test.YtkbhckjpmgkgjaaGreatDoorXD
import Derived.WideMake
import Derived.Test.YtkbhckjpmgkgjaaGreatDoorLS0
namespace Go.Proofs.YtkbhckjpmgkgjaaGreatDoor
open Go.RowKit

/-- What is wrong with packages and wants. -/
noncomputable def wrongE (L : List Pak) (W : List Ned) : Int := if rightL L ≠ 0 then rightL L else if 64 < W.length then 3 else needsE [] W
def leT (a b : ByteArray) : Bool := Op.bytesLess a.toList b.toList || a.toList == b.toList
/-- Picks are told as needs are: a name, and a version's text in the place of a range. -/
def Rises (P : List Ned) (i : Nat) : Prop := ∀ j (h : j + 1 < P.length), j + 1 < i → leT P[j + 1].nm P[j].nm = false
noncomputable def riseB (P : List Ned) : Bool := @decide (Rises P P.length) (Classical.propDecidable _)
theorem leT_gt {a b : ByteArray} (h : leT a b = false) : cmpB (vb b) (vb a) = -1 := by
  unfold leT at h
  rw [Bool.or_eq_false_iff, vLess] at h
  have h1 := of_decide_eq_false h.1
  have h2 : ¬ a.toList = b.toList := by simpa using h.2
  have h3 : ¬ vb b = vb a := fun e => h2 (by rw [vb_inj e])
  have h4 : vb b < vb a := by
    by_cases k : vb b < vb a
    · exact k
    · exact absurd (lt_or k h1) h3
  unfold cmpB
  rw [if_pos h4]
theorem rise_lt {P : List Ned} (h : Rises P P.length) (i : Nat) : ∀ d (hj : i + d + 1 < P.length), cmpB (vb P[i].nm) (vb P[i + d + 1].nm) = -1 := by
  intro d
  induction d with
  | zero => intro hj; exact leT_gt (h i hj hj)
  | succ d ih =>
    intro hj
    have h1 := ih (by omega)
    have h2 := leT_gt (h (i + d + 1) (by omega) (by omega))
    have h3 := preB.tr (vb P[i].nm) (vb P[i + d + 1].nm) (vb P[i + (d + 1) + 1].nm) (by omega) (by show cmpB _ (vb P[i + d + 1 + 1].nm) ≤ 0; omega)
    have h4 : cmpB (vb P[i].nm) (vb P[i + (d + 1) + 1].nm) ≠ 0 := fun e => by
      have e1 := (cmpB_zero _ _).1 e
      have h5 : cmpB (vb P[i + d + 1].nm) (vb P[i].nm) = -1 := by rw [e1]; exact h2
      have := preB.anti (vb P[i].nm) (vb P[i + d + 1].nm)
      omega
    rcases preB.sgn (vb P[i].nm) (vb P[i + (d + 1) + 1].nm) with k | k | k <;> omega
theorem rise_nodup {P : List Ned} (h : Rises P P.length) : (P.map Ned.nm).Nodup := by
  refine List.pairwise_iff_getElem.2 fun i j hi hj hij e => ?_
  simp only [List.getElem_map] at e
  rw [List.length_map] at hi hj
  have h1 := rise_lt h i (j - i - 1) (by omega)
  have e2 : i + (j - i - 1) + 1 = j := by omega
  simp only [e2] at h1
  rw [e, cmpB_self] at h1
  exact absurd h1 (by decide)
/-- The pick of a name; the package of a pick. -/
def pickOf (P : List Ned) (s : ByteArray) : Option Ned := P.find? fun q => decide (q.nm = s)
def packOf (L : List Pak) (k : Rl) : Option Pak := L.find? fun p => decide (p.key = k)
theorem pickOf_some {P : List Ned} {s : ByteArray} {q : Ned} (h : pickOf P s = some q) : q ∈ P ∧ q.nm = s := ⟨List.mem_of_find?_eq_some h, of_decide_eq_true (List.find?_some (p := fun q : Ned => decide (q.nm = s)) h)⟩
theorem packOf_some {L : List Pak} {k : Rl} {p : Pak} (h : packOf L k = some p) : p ∈ L ∧ p.key = k := ⟨List.mem_of_find?_eq_some h, of_decide_eq_true (List.find?_some (p := fun p : Pak => decide (p.key = k)) h)⟩
theorem pickOf_none {P : List Ned} {s : ByteArray} : pickOf P s = none ↔ s ∉ P.map Ned.nm := by
  unfold pickOf
  rw [List.find?_eq_none]
  simp
theorem packOf_none {L : List Pak} {k : Rl} : packOf L k = none ↔ k ∉ L.map Pak.key := by
  unfold packOf
  rw [List.find?_eq_none]
  simp
def Ned.key (q : Ned) : Rl := (q.nm, q.rg)
/-- Has a range this version? -/
def okV (rg v : ByteArray) : Prop := ∃ C x, rangeS (vb rg) = some C ∧ parseV (vb v) = some x ∧ hasV C x = true
def metP (P : List Ned) (n : Ned) : Prop := ∃ q, pickOf P n.nm = some q ∧ okV n.rg q.rg
/-- What is wanted, or needed by what was picked so. -/
inductive NeedIn (L : List Pak) (W P : List Ned) : Ned → Prop
  | want {n : Ned} : n ∈ W → NeedIn L W P n
  | dep {n q m : Ned} {p : Pak} : NeedIn L W P n → pickOf P n.nm = some q → packOf L q.key = some p → m ∈ p.nd → NeedIn L W P m
def Sol (L : List Pak) (W P : List Ned) : Prop := (∀ n, NeedIn L W P n → metP P n) ∧ ∃ S : List ByteArray, S.Nodup ∧ (∀ s, s ∈ S ↔ ∃ n, NeedIn L W P n ∧ n.nm = s) ∧ S.length = P.length
theorem nodup_le {α : Type} : ∀ (D E : List α), D.Nodup → (∀ x ∈ D, x ∈ E) → D.length ≤ E.length
  | [], _, _, _ => Nat.zero_le _
  | x :: D, E, h, hs => by
    obtain ⟨E1, E2, rfl⟩ := List.append_of_mem (hs x List.mem_cons_self)
    have h1 := nodup_le D (E1 ++ E2) (List.nodup_cons.1 h).2 fun y hy => by
      have hne : y ≠ x := fun e => (List.nodup_cons.1 h).1 (by rw [← e]; exact hy)
      rcases List.mem_append.1 (hs y (List.mem_cons_of_mem _ hy)) with k | k
      · exact List.mem_append_left _ k
      · rcases List.mem_cons.1 k with k | k
        · exact absurd k hne
        · exact List.mem_append_right _ k
    rw [List.length_append] at h1
    rw [List.length_append, List.length_cons, List.length_cons]
    omega
theorem sol_of {L : List Pak} {W P : List Ned} {S : List ByteArray} (hnd : S.Nodup) (hS : ∀ s, s ∈ S ↔ ∃ n, NeedIn L W P n ∧ n.nm = s) (hm : ∀ n, NeedIn L W P n → metP P n) : Sol L W P ↔ S.length = P.length := by
  constructor
  · rintro ⟨_, S', h1, h2, h3⟩
    have a1 := nodup_le S S' hnd fun s hs => (h2 s).2 ((hS s).1 hs)
    have a2 := nodup_le S' S h1 fun s hs => (hS s).2 ((h2 s).1 hs)
    omega
  · intro h
    exact ⟨hm, S, hnd, hS, h⟩
theorem sol_not {L : List Pak} {W P : List Ned} {n : Ned} (h : NeedIn L W P n) (hm : ¬ metP P n) : ¬ Sol L W P := fun hs => hm (hs.1 n h)
noncomputable def solB (L : List Pak) (W P : List Ned) : Bool := @decide (Sol L W P) (Classical.propDecidable _)
noncomputable def hereB (L : List Pak) (P : List Ned) : Bool := @decide (∀ q ∈ P, q.key ∈ L.map Pak.key) (Classical.propDecidable _)
/-- Check. -/
noncomputable def checkE (L : List Pak) (W P : List Ned) : Int := if wrongE L W ≠ 0 then wrongE L W else if riseB P = false then 17 else if hereB L P = false then 14 else if solB L W P = false then 22 else 0
theorem met_name {P : List Ned} {n : Ned} (h : metP P n) : n.nm ∈ P.map Ned.nm := by
  obtain ⟨q, h1, _⟩ := h
  obtain ⟨h2, h3⟩ := pickOf_some h1
  exact List.mem_map.2 ⟨q, h2, h3⟩
/-- Keys of packages that may be. -/
theorem packs_keys : ∀ {L : List Pak} {A : List Rl}, packsE A L = 0 → (L.map Pak.key).Nodup ∧ ∀ p ∈ L, p.key ∉ A := by
  intro L
  induction L with
  | nil => intro A _; exact ⟨List.nodup_nil, fun p hp => by cases hp⟩
  | cons q r ih =>
    intro A h
    obtain ⟨h1, h2⟩ := packsE_cons0.1 h
    obtain ⟨k1, k2⟩ := ih h2
    have h3 : q.key ∉ A := (rightP_ok (packE_parts h1).1).2.2
    refine ⟨List.nodup_cons.2 ⟨fun hm => ?_, k1⟩, fun p hp => ?_⟩
    · obtain ⟨p, hp, he⟩ := List.mem_map.1 hm
      exact k2 p hp (by rw [he]; exact List.mem_append_right _ (List.mem_singleton.2 rfl))
    · rcases List.mem_cons.1 hp with rfl | hp
      · exact h3
      · exact fun hm => k2 p hp (List.mem_append_left _ hm)
theorem right_keys {L : List Pak} (h : rightL L = 0) : (L.map Pak.key).Nodup := (packs_keys (rightL_zero.1 h).2).1
/-- Names that are wanted are unlike. -/
theorem needs_names : ∀ {l A : List Ned}, needsE A l = 0 → (l.map Ned.nm).Nodup ∧ ∀ n ∈ l, n.nm ∉ A.map Ned.nm := by
  intro l
  induction l with
  | nil => intro A _; exact ⟨List.nodup_nil, fun p hp => by cases hp⟩
  | cons q r ih =>
    intro A h
    obtain ⟨h1, h2⟩ := needsE_cons0.1 h
    obtain ⟨k1, k2⟩ := ih h2
    have h3 := (rightN_ok h1).2.2
    refine ⟨List.nodup_cons.2 ⟨fun hm => ?_, k1⟩, fun p hp => ?_⟩
    · obtain ⟨p, hp, he⟩ := List.mem_map.1 hm
      exact k2 p hp (by rw [he, List.map_append]; exact List.mem_append_right _ (List.mem_singleton.2 rfl))
    · rcases List.mem_cons.1 hp with rfl | hp
      · exact h3
      · exact fun hm => k2 p hp (by rw [List.map_append]; exact List.mem_append_left _ hm)
theorem wrong_zero {L : List Pak} {W : List Ned} (h : wrongE L W = 0) : rightL L = 0 ∧ W.length ≤ 64 ∧ needsE [] W = 0 := by
  unfold wrongE at h
  by_cases h1 : rightL L ≠ 0
  · rw [if_pos h1] at h; exact absurd h h1
  · rw [if_neg h1] at h
    by_cases h2 : 64 < W.length
    · rw [if_pos h2] at h; exact absurd h (by decide)
    · rw [if_neg h2] at h
      exact ⟨Decidable.not_not.1 h1, by omega, h⟩
/-- A package that lists wants as its needs. -/
theorem wrong_pack (W : List Ned) : rightL [⟨⟨#[119, 97, 110, 116, 115]⟩, ⟨#[48]⟩, W⟩] = if 64 < W.length then 3 else needsE [] W := by
  have hp : parseV [48] = some ⟨0, 0, 0, 0, 1, ⟨#[]⟩⟩ := by
    have := parse_text (v := ⟨0, 0, 0, 0, 1, ⟨#[]⟩⟩) ((mayV_iff _).1 (by rfl))
    have e : textV ⟨0, 0, 0, 0, 1, ⟨#[]⟩⟩ = [48] := by kernel_rfl
    rw [e] at this
    exact this
  unfold rightL bigL
  by_cases h : 64 < W.length
  · rw [if_pos h, if_pos (by simp [h])]
  · rw [if_neg h, if_neg (by simp [h]), packsE_cons]
    have h1 : rightP ⟨#[119, 97, 110, 116, 115]⟩ ⟨#[48]⟩ [] = 0 := by
      unfold rightP
      have e1 : nameI (vb ⟨#[119, 97, 110, 116, 115]⟩) = true := by decide
      have e2 : vb ⟨#[48]⟩ = [48] := rfl
      rw [e1, if_neg (by decide), e2, hp, if_neg (by simp), if_neg (by simp)]
    unfold packE
    simp only
    rw [h1]
    simp only [ne_eq, not_true_eq_false, if_false]
    by_cases h2 : needsE [] W = 0
    · rw [if_neg (fun k => k h2), h2]; rfl
    · rw [if_pos h2]
end Go.Proofs.YtkbhckjpmgkgjaaGreatDoor
namespace Go.Proofs.YtkbhckjpmgkgjaaGreatDoor
open Go.RowKit

theorem packs_of {wr : World} {B : Nat} {D : List PV} {ov : Value} (h : wr.ownsRow B 44 3 ov D.length (flatD D)) (hn : ∀ d ∈ D, NeedsIn wr d.2 d.1.nd) : PacksIn wr ov (D.map (·.1)) := by
  have h' := h
  have hl : (D.map (·.1)).length = D.length := List.length_map _
  obtain ⟨_, ⟨rfl, h0⟩ | ⟨g, cap, cur, rfl, _, hr, hc, _⟩⟩ := h
  · exact ⟨none, 0, 0, 0, by rw [hl, h0], by omega, fun h => absurd h (by omega), fun _ => rfl, fun i hi => absurd hi (by omega)⟩
  · refine ⟨some ⟨g, 0, none⟩, g, 0, cap, by rw [hl], by rw [hl]; exact hc, fun _ => ⟨rfl, (Array.getElem?_eq_some_iff.1 hr).1⟩, (fun h => by cases h), fun i hi => ?_⟩
    have hiD : i < D.length := by rw [hl] at hi; exact hi
    refine ⟨D[i].2, fun j u hj => ?_, ?_⟩
    · have hj3 : j < 3 := (List.getElem?_eq_some_iff.1 hj).1
      rw [List.getElem_map] at hj
      rw [Nat.zero_add, h'.cellAt (i * 3 + j) (by omega), flatD_at D i hiD j hj3]
      exact hj
    · rw [List.getElem_map]
      exact hn _ (List.getElem_mem hiD)
/-- One package more, whose needs lie elsewhere. -/
theorem twice_packs {w w8 w9 : World} {D : List PV} {ov ov' : Value} {p : Pak} {nv : Value} (h : OwR w w8 D ov) (hn : NeedsIn w9 nv p.nd) (ho : w9.ownsRow w.heap.size 44 3 ov' (D.length + 1) (flatD D ++ encP p nv)) (hg : w8.grownBy w9 ov.ownBlock) : PacksIn w9 ov' (D.map (·.1) ++ [p]) := by
  have hrow := ownsRow_row h.own
  have e : D.map (·.1) ++ [p] = (D ++ [(p, nv)]).map (·.1) := by rw [List.map_append]; rfl
  rw [e]
  refine packs_of (B := w.heap.size) (by rw [List.length_append, flatD_snoc]; exact ho) fun d hd => ?_
  rcases List.mem_append.1 hd with hd | hd
  · have hv := h.nds d hd
    refine needs_own (B := w.heap.size) (own_same hv fun k hk => hg.block k (own_block hv k hk).2 fun e => ?_)
    obtain ⟨C, hC⟩ := ownsRow_row hv k hk
    obtain ⟨E, hE⟩ := hrow k e.symm
    rw [hC] at hE
    simp at hE
  · rw [List.mem_singleton.1 hd]; exact hn
theorem own_set {w : World} {B s n : Nat} {e : TypeId} {g cap : Nat} {xs : List Value} (h : w.ownsRow B e s (.slice (some ⟨g, 0, none⟩) n cap) n xs) (k : Nat) (x : Value) : (w.setCell ⟨g, k, none⟩ x).ownsRow B e s (.slice (some ⟨g, 0, none⟩) n cap) n (xs.set k x) := by
  obtain ⟨hl, ⟨h1, _⟩ | ⟨g', cap', cur, h1, hb, hr, hnc, hcm, hsz, htk⟩⟩ := h
  · cases h1
  · simp only [Value.slice.injEq, Option.some.injEq, Addr.mk.injEq, and_true, true_and] at h1
    obtain ⟨rfl, rfl⟩ := h1
    refine ⟨by rw [List.length_set]; exact hl, Or.inr ⟨g, cap, cur.setIfInBounds k x, rfl, hb, Row.setCell hr x, hnc, hcm, by rw [Array.size_setIfInBounds]; exact hsz, ?_⟩⟩
    rw [← htk, Array.toList_setIfInBounds, List.take_set]
theorem flatD_set : ∀ (D : List PV) (n : Nat) (hn : n < D.length) (nd : List Ned) (v : Value), flatD (D.set n (⟨D[n].1.nm, D[n].1.vr, nd⟩, v)) = (flatD D).set (n * 3 + 2) v
  | [], n, hn, _, _ => absurd hn (by simp)
  | d :: r, 0, _, nd, v => rfl
  | d :: r, n + 1, hn, nd, v => by
    have hn' : n < r.length := by simpa using hn
    show encP d.1 d.2 ++ flatD (r.set n (⟨r[n].1.nm, r[n].1.vr, nd⟩, v)) = (encP d.1 d.2 ++ flatD r).set ((n + 1) * 3 + 2) v
    rw [flatD_set r n hn' nd v, List.set_append_right _ _ (by show 3 ≤ _; omega)]
    show _ = encP d.1 d.2 ++ (flatD r).set ((n + 1) * 3 + 2 - 3) v
    rw [show (n + 1) * 3 + 2 - 3 = n * 3 + 2 by omega]
/-- One package's needs are more. -/
theorem again_packs {w w8 w6 : World} {D : List PV} {go oc : Nat} (h : OwR w w8 D (.slice (some ⟨go, 0, none⟩) D.length oc)) {n : Nat} (hn : n < D.length) {wa : World} (hba : Below w8.heap.size w8 wa) {nd : List Ned} {v6 : Value} (h6 : w6.ownsRow w.heap.size 61 2 v6 nd.length (flatN nd)) (hg : wa.grownBy w6 (D[n].2).ownBlock) :
    PacksIn (w6.setCell ⟨go, n * 3 + 2, none⟩ v6) (.slice (some ⟨go, 0, none⟩) D.length oc) ((D.map (·.1)).set n ⟨D[n].1.nm, D[n].1.vr, nd⟩) ∧ Below w.heap.size w (w6.setCell ⟨go, n * 3 + 2, none⟩ v6) := by
  have hown := h.own
  have hrow := ownsRow_row hown go rfl
  have hgo := own_block hown go rfl
  have hrow6 : ∀ k, v6.ownBlock = some k → k ≠ go := fun k hk e => by
    obtain ⟨C, hC⟩ := ownsRow_row h6 k hk
    have hnn := ownsRow_row (h.nds D[n] (List.getElem_mem hn))
    obtain ⟨E, hE⟩ := hrow
    have hE6 : w6.heap[go]? = w8.heap[go]? := (hg.block go (Nat.lt_of_lt_of_le hgo.2 hba.size) fun e2 => by
      obtain ⟨G, hG⟩ := hnn go e2.symm
      rw [hE] at hG
      simp at hG).trans (hba.block go hgo.2)
    rw [e, hE6, hE] at hC
    simp at hC
  have hown6 : w6.ownsRow w.heap.size 44 3 (.slice (some ⟨go, 0, none⟩) D.length oc) D.length (flatD D) := own_same hown fun k hk => by
    have : k = go := by simpa [Value.ownBlock] using hk.symm
    subst this
    refine (hg.block k (Nat.lt_of_lt_of_le hgo.2 hba.size) fun e2 => ?_).trans (hba.block k hgo.2)
    obtain ⟨G, hG⟩ := ownsRow_row (h.nds D[n] (List.getElem_mem hn)) k e2.symm
    obtain ⟨E, hE⟩ := hrow
    rw [hE] at hG
    simp at hG
  have hset := own_set hown6 (n * 3 + 2) v6
  rw [← flatD_set D n hn nd v6] at hset
  have hmap : (D.map (·.1)).set n ⟨D[n].1.nm, D[n].1.vr, nd⟩ = (D.set n (⟨D[n].1.nm, D[n].1.vr, nd⟩, v6)).map (·.1) := by rw [List.map_set]
  have hlen : (D.set n (⟨D[n].1.nm, D[n].1.vr, nd⟩, v6)).length = D.length := List.length_set
  have h68 : Below w.heap.size w8 w6 := (hba.mono h.old.size).trans (below_own' hg (Nat.le_trans h.old.size hba.size) fun k hk => (own_block (h.nds D[n] (List.getElem_mem hn)) k hk).1)
  refine ⟨?_, (h.old.trans h68).trans (below_set hgo.1 _ _)⟩
  rw [hmap]
  refine packs_of (B := w.heap.size) (by rw [hlen]; exact hset) fun d hd => ?_
  obtain ⟨j, hj, rfl⟩ := List.getElem_of_mem hd
  rw [hlen] at hj
  by_cases hjn : j = n
  · subst hjn
    rw [List.getElem_set_self]
    exact needs_own (B := w.heap.size) (own_same h6 fun k hk => Below.heap_setCell _ _ _ _ (by show k ≠ go; exact hrow6 k hk))
  · rw [List.getElem_set_ne (fun e => hjn e.symm)]
    have hv := h.nds D[j] (List.getElem_mem hj)
    refine needs_own (B := w.heap.size) (own_same hv fun k hk => ?_)
    have hkgo : k ≠ go := fun e => by
      obtain ⟨C, hC⟩ := ownsRow_row hv k hk
      obtain ⟨E, hE⟩ := hrow
      rw [e, hE] at hC
      simp at hC
    refine (Below.heap_setCell _ _ _ _ (by show k ≠ go; exact hkgo)).trans ((hg.block k (Nat.lt_of_lt_of_le (own_block hv k hk).2 hba.size) fun e2 => ?_).trans (hba.block k (own_block hv k hk).2))
    have hp := List.pairwise_iff_getElem.1 h.sep
    rcases Nat.lt_or_gt_of_ne hjn with hl | hl
    · exact hp j n hj hn hl k k hk e2.symm rfl
    · exact hp n j hn hj hl k k e2.symm hk rfl
theorem two_nd (w : World) : (Instr.buildSlice 42 2 #[(0, .agg #[.string ⟨#[110, 111, 110, 101]⟩, .string ⟨#[42]⟩]), (1, .agg #[.string ⟨#[110, 111, 110, 101]⟩, .string ⟨#[42]⟩])]).run Tryz.prog w = .ok (.slice (some ⟨w.heap.size, 0, none⟩) 2 2) (w.alloc (.cells #[.string ⟨#[110, 111, 110, 101]⟩, .string ⟨#[42]⟩, .string ⟨#[110, 111, 110, 101]⟩, .string ⟨#[42]⟩] 61)) := by
  obtain ⟨i0, hi, hz0, hz1, _⟩ := info_parts infoNdz
  refine run_buildSlice w 42 61 2 _ _ i0 _ Tryz.underlying42 hi hz0 (by rw [hz1]; decide) (by rw [hz1]; decide) ?_
  rw [hz1]
  kernel_rfl
theorem one_in (w : World) (nm vr : ByteArray) : PacksIn (w.alloc (.cells #[.string nm, .string vr, .slice none 0 0] 44)) (.slice (some ⟨w.heap.size, 0, none⟩) 1 1) [⟨nm, vr, []⟩] := by
  have hr : Row (w.alloc (.cells #[.string nm, .string vr, .slice none 0 0] 44)) w.heap.size #[.string nm, .string vr, .slice none 0 0] 44 := Row.new _ _ _
  refine ⟨some ⟨w.heap.size, 0, none⟩, w.heap.size, 0, 1, rfl, Nat.le_refl _, fun _ => ⟨rfl, hr.lt⟩, (fun h => nomatch h), fun i hi => ?_⟩
  have hi0 : i = 0 := by simpa using hi
  subst hi0
  refine ⟨.slice none 0 0, fun j u hj => ?_, ⟨none, 0, 0, 0, rfl, Nat.le_refl _, fun h => absurd h (by simp), fun _ => rfl, fun i hi => absurd hi (by simp)⟩⟩
  rw [Nat.zero_mul, Nat.zero_add, hr.cell j, ← hj]
  exact List.getElem?_toArray
/-- The row of packages while one's needs grow. -/
theorem again_row {w w8 w6 : World} {D : List PV} {go oc : Nat} (h : OwR w w8 D (.slice (some ⟨go, 0, none⟩) D.length oc)) {n : Nat} (hn : n < D.length) {wa : World} (hba : Below w8.heap.size w8 wa) (hg : wa.grownBy w6 (D[n].2).ownBlock) :
    w8.cell? ⟨go, n * 3 + 2, none⟩ = some D[n].2 ∧ w6.cell? ⟨go, n * 3 + 2, none⟩ = some D[n].2 ∧ w6.frozen? ⟨go, n * 3 + 2, none⟩ = false ∧ ∀ v, (w6.setCell ⟨go, n * 3 + 2, none⟩ v).cell? ⟨go, n * 3 + 2, none⟩ = some v := by
  have hown := h.own
  have hgo := own_block hown go rfl
  obtain ⟨C, hC⟩ := ownsRow_row hown go rfl
  have hc8 : w8.cell? ⟨go, n * 3 + 2, none⟩ = some D[n].2 := by
    rw [hown.cellAt (n * 3 + 2) (by omega), flatD_at D n hn 2 (by omega)]
    rfl
  have hr8 : Row w8 go C 44 := hC
  have hlt : n * 3 + 2 < C.size := by
    have e := hr8.cell (n * 3 + 2)
    rw [hc8] at e
    exact (Array.getElem?_eq_some_iff.1 e.symm).1
  have hr6 : Row w6 go C 44 := ((hg.block go (Nat.lt_of_lt_of_le hgo.2 hba.size) fun e2 => by
    obtain ⟨G, hG⟩ := ownsRow_row (h.nds D[n] (List.getElem_mem hn)) go e2.symm
    rw [hC] at hG
    simp at hG).trans (hba.block go hgo.2)).trans hC
  refine ⟨hc8, ?_, hr6.frozen _, fun v => ?_⟩
  · rw [hr6.cell, ← hr8.cell, hc8]
  · rw [(hr6.setCell (i := n * 3 + 2) v).cell]
    simp [hlt]
/-- One package's needs are two more, in this program's words. -/
theorem again_all {L : List Pak} {w w8 w6 wa : World} {D : List PV} {go oc j : Nat} {v6 : Value} (h : OwR w w8 D (.slice (some ⟨go, 0, none⟩) D.length oc)) (hD : D.map (·.1) = L) (hj : j < L.length) (hjD : j < D.length) (hba : Below w8.heap.size w8 wa) (h6 : w6.ownsRow w.heap.size 61 2 v6 (L[j].nd.length + 2) (flatN L[j].nd ++ flatN [noneN, noneN])) (hg : wa.grownBy w6 (D[j].2).ownBlock) :
    PacksIn (w6.setCell ⟨go, j * 3 + 2, none⟩ v6) (.slice (some ⟨go, 0, none⟩) D.length oc) (L.set j ⟨L[j].nm, L[j].vr, L[j].nd ++ [noneN, noneN]⟩) ∧ Below w.heap.size w (w6.setCell ⟨go, j * 3 + 2, none⟩ v6) := by
  subst hD
  simp only [List.getElem_map] at h6 ⊢
  exact again_packs h hjD hba (by rw [List.length_append, flatN_app]; exact h6) hg
theorem two_one : ∀ u ∈ flatN [noneN, noneN], u.oneCell' = true := fun u hu => List.all_eq_true.1 (show (flatN [noneN, noneN]).all (·.oneCell') = true by kernel_rfl) u hu
theorem fit_snoc {L : List Pak} {p : Pak} (h : FitP L) (hp : p ∈ L) : FitP (L ++ [p]) := fun q hq => by
  rcases List.mem_append.1 hq with hq | hq
  · exact h q hq
  · rw [List.mem_singleton.1 hq]; exact h p hp
theorem fit_set {L : List Pak} {j : Nat} (h : FitP L) (hj : j < L.length) : FitP (L.set j ⟨L[j].nm, L[j].vr, L[j].nd ++ [noneN, noneN]⟩) := fun q hq => by
  have h0 := h L[j] (List.getElem_mem hj)
  rcases List.mem_or_eq_of_mem_set hq with hq | rfl
  · exact h q hq
  · refine ⟨h0.1, h0.2.1, fun n hn => ?_⟩
    rcases List.mem_append.1 hn with hn | hn
    · exact h0.2.2 n hn
    · simp at hn
      rw [hn]
      exact ⟨by show 4 ≤ _; omega, by show 1 ≤ _; omega⟩
theorem own_cell {w w8 : World} {D : List PV} {ov : Value} {go : Nat} (h : OwR w w8 D ov) (he : ov.ownBlock = some go) {n : Nat} (hn : n < D.length) : ∃ oc, ov = .slice (some ⟨go, 0, none⟩) D.length oc ∧ w8.cell? ⟨go, n * 3 + 2, none⟩ = some D[n].2 := by
  have hown := h.own
  obtain ⟨_, ⟨rfl, h0⟩ | ⟨g, cap, cur, rfl, _⟩⟩ := h.own
  · cases he
  · simp only [Value.ownBlock, Option.some.injEq] at he
    subst he
    exact ⟨cap, rfl, by rw [hown.cellAt (n * 3 + 2) (by omega), flatD_at D n hn 2 (by omega)]; rfl⟩
theorem own_some {w w8 : World} {D : List PV} {ov : Value} (h : OwR w w8 D ov) (hn : 0 < D.length) : ∃ go, ov.ownBlock = some go := by
  obtain ⟨_, ⟨rfl, h0⟩ | ⟨g, cap, cur, rfl, _⟩⟩ := h.own
  · omega
  · exact ⟨g, rfl⟩
/-- What holds while the names are gathered. -/
structure CnR (w wr : World) (L : List Pak) (i : Nat) (S : List ByteArray) (sv : Value) : Prop where
  own : wr.ownsRow w.heap.size 9 1 sv S.length (S.map Value.string)
  nd : S.Nodup
  mem : ∀ s, s ∈ S ↔ ∃ p ∈ L.take i, p.nm = s
  old : Below w.heap.size w wr
theorem CnR.next {w wr w' : World} {L : List Pak} {i : Nat} {S : List ByteArray} {sv : Value} (h : CnR w wr L i S sv) (hb : Below wr.heap.size wr w') : CnR w w' L i S sv :=
  ⟨own_below h.own hb, h.nd, h.mem, h.old.trans (hb.mono h.old.size)⟩
theorem CnR.skip {w wr : World} {L : List Pak} {i : Nat} {S : List ByteArray} {sv : Value} (h : CnR w wr L i S sv) (hi : i < L.length) (hin : L[i].nm ∈ S) : CnR w wr L (i + 1) S sv :=
  ⟨h.own, h.nd, fun s => by
    rw [h.mem s, List.take_succ_eq_append_getElem hi]
    constructor
    · rintro ⟨p, hp, he⟩; exact ⟨p, List.mem_append_left _ hp, he⟩
    · rintro ⟨p, hp, he⟩
      rcases List.mem_append.1 hp with hp | hp
      · exact ⟨p, hp, he⟩
      · rw [List.mem_singleton.1 hp] at he
        rw [← he]
        exact (h.mem _).1 hin, h.old⟩
theorem CnR.more {w wr w' : World} {L : List Pak} {i : Nat} {S : List ByteArray} {sv sv' : Value} {x : ByteArray} (h : CnR w wr L i S sv) (hi : i < L.length) (hx : x = L[i].nm) (hin : x ∉ S) (ho : w'.ownsRow w.heap.size 9 1 sv' (S.length + 1) (S.map Value.string ++ [.string x])) (hb : Below w.heap.size w w') : CnR w w' L (i + 1) (S ++ [x]) sv' :=
  ⟨by rw [List.length_append, List.map_append]; exact ho, by
    rw [List.nodup_append]
    exact ⟨h.nd, List.nodup_cons.2 ⟨List.not_mem_nil, List.nodup_nil⟩, fun a ha b hb => by
      rw [List.mem_singleton.1 hb]
      exact fun e => hin (by rw [← e]; exact ha)⟩, fun s => by
    rw [List.mem_append, h.mem s, List.take_succ_eq_append_getElem hi, List.mem_singleton]
    constructor
    · rintro (⟨p, hp, he⟩ | he)
      · exact ⟨p, List.mem_append_left _ hp, he⟩
      · exact ⟨L[i], List.mem_append_right _ (List.mem_singleton.2 rfl), by rw [he, hx]⟩
    · rintro ⟨p, hp, he⟩
      rcases List.mem_append.1 hp with hp | hp
      · exact Or.inl ⟨p, hp, he⟩
      · rw [List.mem_singleton.1 hp] at he
        exact Or.inr (by rw [hx, he]), hb⟩
/-- Told of the first ones: none is it. -/
def AllNe (b : Bool) (l : List ByteArray) (x : ByteArray) : Prop := b = true ↔ ∀ s ∈ l, s ≠ x
theorem cntN_le (L : List Pak) (s : ByteArray) : cntN L s ≤ L.length := verOf_len L s
end Go.Proofs.YtkbhckjpmgkgjaaGreatDoor
namespace Go.Proofs.YtkbhckjpmgkgjaaGreatDoor
open Go.RowKit

theorem one_in2 (w : World) (nm vr : ByteArray) {na : Option Addr} {nl nc : Nat} {N : List Ned} (hN : NeedsIn w (.slice na nl nc) N) : PacksIn (w.alloc (.cells #[.string nm, .string vr, .slice na nl nc] 44)) (.slice (some ⟨w.heap.size, 0, none⟩) 1 1) [⟨nm, vr, N⟩] := by
  have hr : Row (w.alloc (.cells #[.string nm, .string vr, .slice na nl nc] 44)) w.heap.size #[.string nm, .string vr, .slice na nl nc] 44 := Row.new _ _ _
  have hb : Below w.heap.size w (w.alloc (.cells #[.string nm, .string vr, .slice na nl nc] 44)) := (Below.refl _ _).alloc (Nat.le_refl _) _
  refine ⟨some ⟨w.heap.size, 0, none⟩, w.heap.size, 0, 1, rfl, Nat.le_refl _, fun _ => ⟨rfl, hr.lt⟩, (fun h => nomatch h), fun i hi => ?_⟩
  have hi0 : i = 0 := by simpa using hi
  subst hi0
  refine ⟨.slice na nl nc, fun j u hj => ?_, hN.keep (Nat.le_refl _) hb⟩
  rw [Nat.zero_mul, Nat.zero_add, hr.cell j, ← hj]
  exact List.getElem?_toArray
/-- Needs whose texts fit. -/
def FitN (W : List Ned) : Prop := ∀ n ∈ W, n.nm.size ≤ 140737488355328 ∧ n.rg.size ≤ 140737488355328
set_option maxRecDepth 20000 in
set_option maxHeartbeats 4000000 in
theorem wrong_ok {L : List Pak} {W : List Ned} {pv : Value} {wa : Option Addr} {wc : Nat} (w : World) (hL : PacksIn w pv L) (hF : FitP L) (hl : L.length < 9223372036854775807) (hW : NeedsIn w (.slice wa W.length wc) W) (hFW : FitN W) : Calls Tryz.prog 38 #[pv, .slice wa W.length wc] w fun e w' => e = .returned (.int .i64 (wrongE L W)) ∧ Below w.heap.size w w' := by
  have hri := right_ok w hL hF hl
  obtain ⟨R, hR⟩ : ∃ R, R = rightL L := ⟨_, rfl⟩
  have HR : Hid (R = rightL L) := hR
  rw [← hR] at hri
  have HW : Hid (NeedsIn w (.slice wa W.length wc) W) := hW
  have HFW : Hid (FitN W) := hFW
  obtain ⟨m, hm⟩ : ∃ m, m = W.length := ⟨_, rfl⟩
  have HM : Hid (m = W.length) := hm
  rw [← hm]
  clear hL hF hl hW hFW hR hm
  by_cases hz : R = 0
  · have HR0 : Hid (wrongE L W = if 64 < W.length then 3 else needsE [] W) := by
      show _ = _
      unfold wrongE
      rw [← HR.out, if_neg (fun k => k hz)]
    subst hz
    go_enter Tryz.func38, Tryz.ntmps38
    go_wp2_with fail
    refine hri.mono ?_
    rintro e w1 ⟨rfl, hb1⟩
    have HB1 : Hid (Below w.heap.size w w1) := hb1
    have hone := one_pk ⟨#[119, 97, 110, 116, 115]⟩ ⟨#[48]⟩ wa m wc w1
    have hpk := one_in2 w1 ⟨#[119, 97, 110, 116, 115]⟩ ⟨#[48]⟩ (na := wa) (nl := m) (nc := wc) (N := W) (by rw [HM.out]; exact HW.out.keep (Nat.le_refl _) hb1)
    have hb2 : Below w1.heap.size w1 (w1.alloc (.cells #[.string ⟨#[119, 97, 110, 116, 115]⟩, .string ⟨#[48]⟩, .slice wa m wc] 44)) := (Below.refl _ _).alloc (Nat.le_refl _) _
    have hr2 := right_ok (L := [⟨⟨#[119, 97, 110, 116, 115]⟩, ⟨#[48]⟩, W⟩]) _ hpk (fun p hp => by
      rw [List.mem_singleton.1 hp]
      exact ⟨by show 5 ≤ _; omega, by show 1 ≤ _; omega, HFW.out⟩) (by simp)
    rw [wrong_pack, ← HR0.out] at hr2
    have HB2 : Hid (Below w.heap.size w (w1.alloc (.cells #[.string ⟨#[119, 97, 110, 116, 115]⟩, .string ⟨#[48]⟩, .slice wa m wc] 44))) := HB1.out.trans (hb2.mono HB1.out.size)
    clear hri hb1 hpk hb2
    go_wp2_with fail
    refine hr2.mono ?_
    rintro e w3 ⟨rfl, hb3⟩
    have HB3 : Hid (Below w.heap.size w w3) := HB2.out.trans (hb3.mono HB2.out.size)
    clear hr2 hb3 hone
    go_wp2
    go_ret
    exact ⟨rfl, HB3.out⟩
  · have hzb := beqI hz
    have HR0 : Hid (wrongE L W = R) := by
      show _ = _
      unfold wrongE
      rw [← HR.out, if_pos hz]
    go_enter Tryz.func38, Tryz.ntmps38
    go_wp2_with fail
    refine hri.mono ?_
    rintro e w1 ⟨rfl, hb1⟩
    have HB1 : Hid (Below w.heap.size w w1) := hb1
    clear hri hb1
    go_wp2
    go_ret
    exact ⟨by rw [HR0.out]; rfl, HB1.out⟩
theorem infoPi : (Tryz.prog.info? 82).map (·.size) = some 2 := by kernel_rfl
theorem Rises.go {P : List Ned} {i : Nat} (h : Rises P i) (hp : ∀ (h0 : 0 < i) (hi : i < P.length), leT P[i].nm P[i - 1].nm = false) : Rises P (i + 1) := fun j hj hji => by
  by_cases h1 : j + 1 < i
  · exact h j hj h1
  · have h2 : i = j + 1 := by omega
    subst h2
    exact hp (by omega) hj
theorem riseB_true {P : List Ned} (h : Rises P P.length) : riseB P = true := by
  unfold riseB
  exact @decide_eq_true _ (Classical.propDecidable _) h
theorem riseB_false {P : List Ned} (j : Nat) (hj : j + 1 < P.length) (h : leT P[j + 1].nm P[j].nm = true) : riseB P = false := by
  unfold riseB
  refine @decide_eq_false _ (Classical.propDecidable _) fun k => ?_
  rw [k j hj hj] at h
  cases h
theorem rise_of {P : List Ned} (h : riseB P = true) : Rises P P.length := by
  unfold riseB at h
  exact @of_decide_eq_true _ (Classical.propDecidable _) h
set_option maxRecDepth 20000 in
set_option maxHeartbeats 4000000 in
theorem rise_ok {P : List Ned} {pa : Option Addr} {pc : Nat} (w : World) (hP : NeedsIn w (.slice pa P.length pc) P) (hl : P.length ≤ 140737488355328) : Calls Tryz.prog 39 #[.slice pa P.length pc] w fun e w' => e = .returned (.bool (riseB P)) ∧ Below w.heap.size w w' := by
  obtain ⟨a1, g, off, c1, he, h2, h3, h4, h5⟩ := hP.ex
  simp only [Value.slice.injEq, true_and] at he
  obtain ⟨rfl, rfl⟩ := he
  have HA1 : Hid (0 < P.length → pa = some ⟨g, off, none⟩) := fun h => (h3 h).1
  have HA5 : Hid (∀ i (h : i < P.length), ∀ wx, Below w.heap.size w wx → wx.rangeAt g (off + i * 2) (encN P[i])) := fun i hi wx hx j u hj => (hx.cell (p := ⟨g, off + i * 2 + j, none⟩) (h3 (by omega)).2).trans (h5 i hi j u hj)
  obtain ⟨n, hn⟩ : ∃ n, n = P.length := ⟨_, rfl⟩
  have HN : Hid (n = P.length) := hn
  rw [← hn]
  rw [← hn] at h2 hl
  obtain ⟨R, hR⟩ : ∃ R, R = riseB P := ⟨_, rfl⟩
  have HR : Hid (R = riseB P) := hR
  rw [← hR]
  clear hP h3 h4 h5 hn hR
  go_enter Tryz.func39, Tryz.ntmps39
  go_wp2
  go_loopw [7] (fun iv wi => ∃ i : Nat, i ≤ n ∧ iv = .int .i64 i ∧ Below w.heap.size w wi ∧ Hid (Rises P i)) (fun iv _ => n - (intOf iv).toNat)
  case atStart => exact ⟨0, Nat.zero_le _, rfl, Below.refl _ _, fun j _ h => absurd h (by omega)⟩
  case round =>
    obtain ⟨i, hi, rfl, hb, HI⟩ := hrel
    have HB : Hid (Below w.heap.size w wr) := hb
    clear hb
    by_cases hlt : i < n
    · have hlt' : (i : Int) < (n : Int) := by omega
      have hiP : i < P.length := by have := HN.out; omega
      obtain rfl := HA1.out (by omega)
      have hrg := HA5.out i hiP wr HB.out
      obtain ⟨q, hq⟩ : ∃ q, q = P[i] := ⟨_, rfl⟩
      rw [← hq] at hrg
      obtain ⟨nm, hnm⟩ : ∃ x, x = q.nm := ⟨_, rfl⟩
      obtain ⟨vr, hvr⟩ : ∃ x, x = q.rg := ⟨_, rfl⟩
      have hrg : wr.rangeAt g (off + i * 2) [.string nm, .string vr] := by rw [hnm, hvr]; exact hrg
      have hb3 : Below wr.heap.size wr (wr.alloc (.cells #[.string nm, .string vr] 82)) := (Below.refl _ _).alloc (Nat.le_refl _) _
      have hr3 : Row (wr.alloc (.cells #[.string nm, .string vr] 82)) wr.heap.size #[.string nm, .string vr] 82 := Row.new _ _ _
      obtain ⟨w3, hw3⟩ : ∃ x, x = wr.alloc (.cells #[.string nm, .string vr] 82) := ⟨_, rfl⟩
      rw [← hw3] at hb3 hr3
      have hw3' := hw3.symm
      obtain ⟨k5, hk5⟩ : ∃ k, k = wr.heap.size := ⟨_, rfl⟩
      have hk5' := hk5.symm
      rw [← hk5] at hr3
      have HB3 : Hid (Below w.heap.size w w3) := HB.out.trans (hb3.mono HB.out.size)
      have HBq : Hid (∀ q, Below w.heap.size w (w3.drewN q)) := fun q => HB3.out.trans ⟨rfl, rfl, rfl, Nat.le_refl _, fun _ _ => rfl⟩
      have d0 : w3.cell? ⟨k5, 0, none⟩ = some (.string nm) := (hr3.cell 0).trans rfl
      have HNm : Hid (nm = P[i].nm) := by show _ = _; rw [hnm, hq]
      clear hw3 hk5 hb3 hr3 hq hnm hvr
      by_cases h0 : i = 0
      · subst h0
        have HI1 : Hid (Rises P 1) := HI.out.go fun h0 _ => absurd h0 (by omega)
        go_wp2_with (first | refine wpList_load_mid rfl 82 _ rfl g (off + 0 * 2) rfl _ _ hrg Tryz.underlying82 rfl infoPi ?_ | (refine wpList_store_new rfl 82 _ _ rfl wr zeroNd #[.string nm, .string vr] 82 rfl wr.heap.size rfl rfl rfl infoPi rfl (nd_one _ _) ?_; rw [hw3']; rw [hk5']))
        go_quiet (fail)
        go_wp2
        go_roundw
        case rel => exact ⟨1, by omega, by go_num, HBq.out _, HI1.out⟩
        case measure => simp [intOf]; omega
      · obtain ⟨i1, hi1⟩ : ∃ i1, i1 = i - 1 := ⟨_, rfl⟩
        have hw1 : IntKind.i64.wrap ((i : Int) - 1) = (i1 : Int) := by rw [IntKind.wrap_i64]; omega
        have hgt : (0 : Int) < (i : Int) := by omega
        have hgtd : decide ((0 : Int) < (i : Int)) = true := decide_eq_true hgt
        have hgtn : decide (0 < i) = true := decide_eq_true (by omega)
        have hi1P : i1 < P.length := by omega
        have e0 : w3.cell? ⟨g, off + i1 * 2, none⟩ = some (.string P[i1].nm) := HA5.out i1 hi1P w3 HB3.out 0 _ rfl
        have hi1n : (i1 : Int) < (n : Int) := by omega
        obtain ⟨nm1, hnm1⟩ : ∃ x, x = P[i1].nm := ⟨_, rfl⟩
        rw [← hnm1] at e0
        have HNm1 : Hid (∀ (hp : i1 + 1 < P.length), leT P[i1 + 1].nm P[i1].nm = leT nm nm1) := fun hp => by
          have e : i1 + 1 = i := by omega
          simp only [e]
          rw [HNm.out, hnm1]
        have HGo : Hid (leT nm nm1 = false → Rises P (i + 1)) := fun h => HI.out.go fun _ hp => by
          have h9 := HNm1.out (by omega)
          have e : i - 1 = i1 := by omega
          simp only [e]
          rw [h] at h9
          have e2 : i1 + 1 = i := by omega
          simp only [e2] at h9
          exact h9
        have HNo : Hid (leT nm nm1 = true → R = false) := fun h => by
          rw [HR.out]
          exact riseB_false i1 (by omega) (by rw [HNm1.out]; exact h)
        clear hnm1 hi1
        by_cases he : nm = nm1
        · have HRf : Hid (R = false) := HNo.out (by subst he; unfold leT; simp)
          rw [← he] at e0
          clear he
          go_wp2_with (first | refine wpList_load_mid rfl 82 _ rfl g (off + i * 2) rfl _ _ hrg Tryz.underlying82 rfl infoPi ?_ | (refine wpList_store_new rfl 82 _ _ rfl wr zeroNd #[.string nm, .string vr] 82 rfl wr.heap.size rfl rfl rfl infoPi rfl (nd_one _ _) ?_; rw [hw3']; rw [hk5']))
          go_quiet (fail)
          go_wp2
          go_ret
          exact ⟨by rw [HRf.out]; rfl, HBq.out _⟩
        · have hne1 : ¬ nm.toList = nm1.toList := fun e => he (list_eq.1 e)
          have hne2 : (nm.toList == nm1.toList) = false := by simpa using hne1
          have HLe : Hid (leT nm nm1 = Op.bytesLess nm.toList nm1.toList) := by show _ = _; unfold leT; rw [hne2, Bool.or_false]
          cases hbl : Op.bytesLess nm.toList nm1.toList with
          | true =>
            have HRf : Hid (R = false) := HNo.out (HLe.out.trans hbl)
            go_wp2_with (first | refine wpList_load_mid rfl 82 _ rfl g (off + i * 2) rfl _ _ hrg Tryz.underlying82 rfl infoPi ?_ | (refine wpList_store_new rfl 82 _ _ rfl wr zeroNd #[.string nm, .string vr] 82 rfl wr.heap.size rfl rfl rfl infoPi rfl (nd_one _ _) ?_; rw [hw3']; rw [hk5']))
            go_quiet (fail)
            go_wp2
            go_ret
            exact ⟨by rw [HRf.out]; rfl, HBq.out _⟩
          | false =>
            have HI1 : Hid (Rises P (i + 1)) := HGo.out (HLe.out.trans hbl)
            go_wp2_with (first | refine wpList_load_mid rfl 82 _ rfl g (off + i * 2) rfl _ _ hrg Tryz.underlying82 rfl infoPi ?_ | (refine wpList_store_new rfl 82 _ _ rfl wr zeroNd #[.string nm, .string vr] 82 rfl wr.heap.size rfl rfl rfl infoPi rfl (nd_one _ _) ?_; rw [hw3']; rw [hk5']))
            go_quiet (fail)
            go_wp2
            go_roundw
            case rel => exact ⟨i + 1, by omega, by go_num, HBq.out _, HI1.out⟩
            case measure => simp [intOf]; omega
    · have hlt' : ¬ (i : Int) < (n : Int) := by omega
      have HRt : Hid (R = true) := by show _ = _; rw [HR.out]; exact riseB_true (fun j hj _ => HI.out j hj (by have := HN.out; omega))
      go_wp2
      go_ret
      exact ⟨by rw [HRt.out]; rfl, HB.out⟩
end Go.Proofs.YtkbhckjpmgkgjaaGreatDoor
namespace Go.Proofs.YtkbhckjpmgkgjaaGreatDoor
open Go.RowKit

/-- Needs whose ranges the document's own parser takes. -/
def FitM (W : List Ned) : Prop := ∀ n ∈ W, n.nm.size ≤ 140737488355328 ∧ n.rg.size ≤ 4194304
set_option maxRecDepth 40000 in
set_option maxHeartbeats 16000000 in
theorem refWrong_ok {L : List Pak} {W : List Ned} {pa wa : Option Addr} {pc wc : Nat} (w : World) (hL : PacksIn w (.slice pa L.length pc) L) (hF : FitR L) (hl : L.length ≤ 140737488355328) (hnd : ∀ p ∈ L, p.nd.length ≤ 140737488355328) (hW : NeedsIn w (.slice wa W.length wc) W) (hFW : FitM W) (hwl : W.length ≤ 140737488355328) : Calls Tryz.prog 42 #[.slice pa L.length pc, .slice wa W.length wc] w fun e w' => e = .returned (.int .i64 (wrongE L W)) ∧ Below w.heap.size w w' := by
  have hri := refRight_ok w hL hF hl hnd
  obtain ⟨Q, hQ⟩ : ∃ Q, Q = rightL L := ⟨_, rfl⟩
  have HQ : Hid (Q = rightL L) := hQ
  rw [← hQ] at hri
  obtain ⟨R, hR⟩ : ∃ R, R = wrongE L W := ⟨_, rfl⟩
  have HR : Hid (R = wrongE L W) := hR
  rw [← hR]
  obtain ⟨a1, ng, noff, c1, he, h2, h3, h4, h5⟩ := hW.ex
  simp only [Value.slice.injEq, true_and] at he
  obtain ⟨rfl, rfl⟩ := he
  have HNC : Hid (0 < W.length → wa = some ⟨ng, noff, none⟩ ∧ ∀ wx, Below w.heap.size w wx → ∀ i (h : i < W.length), wx.cell? ⟨ng, noff + i * 2, none⟩ = some (.string W[i].nm) ∧ wx.cell? ⟨ng, noff + i * 2 + 1, none⟩ = some (.string W[i].rg)) := fun h0 => ⟨(h3 h0).1, fun wx hx i hi => ⟨(hx.cell (p := ⟨ng, noff + i * 2 + 0, none⟩) (h3 h0).2).trans (h5 i hi 0 _ rfl), (hx.cell (p := ⟨ng, noff + i * 2 + 1, none⟩) (h3 h0).2).trans (h5 i hi 1 _ rfl)⟩⟩
  obtain ⟨nl, hnl⟩ : ∃ nl, nl = W.length := ⟨_, rfl⟩
  have HNl : Hid (nl = W.length) := hnl
  obtain ⟨n, hn⟩ : ∃ n, n = L.length := ⟨_, rfl⟩
  rw [← hn] at hri ⊢
  rw [← hnl] at h2 hwl ⊢
  have HF3 : Hid (FitM W) := hFW
  clear hL hF hl hnd hW hFW h3 h4 h5 hQ hR hnl hn
  by_cases hz : Q = 0
  case neg =>
    have hzb := beqI hz
    have HRe : Hid (R = Q) := by show _ = _; rw [HR.out]; unfold wrongE; rw [← HQ.out, if_pos hz]
    go_enter Tryz.func42, Tryz.ntmps42
    go_wp2_with fail
    refine hri.mono ?_
    rintro e w1 ⟨rfl, hb1⟩
    have HB1 : Hid (Below w.heap.size w w1) := hb1
    clear hri hb1
    go_wp2
    go_ret
    exact ⟨by rw [HRe.out]; rfl, HB1.out⟩
  case pos =>
    have HR1 : Hid (R = if 64 < W.length then 3 else needsE [] W) := by show _ = _; rw [HR.out]; unfold wrongE; rw [← HQ.out, if_neg (fun k => k hz)]
    subst hz
    clear HR HQ
    go_enter Tryz.func42, Tryz.ntmps42
    go_wp2_with fail
    refine hri.mono ?_
    rintro e w1 ⟨rfl, hb1⟩
    have HBE : Hid (Below w.heap.size w w1) := hb1
    clear hri hb1
    by_cases h64 : 64 < nl
    · have h64' : (64 : Int) < (nl : Int) := by omega
      have HR3 : Hid (R = 3) := HR1.out.trans (if_pos (by have := HNl.out; omega))
      go_wp2
      go_ret
      exact ⟨by rw [HR3.out]; rfl, HBE.out⟩
    · have h64' : ¬ (64 : Int) < (nl : Int) := by omega
      have HRn : Hid (R = needsE [] W) := HR1.out.trans (if_neg (by have := HNl.out; omega))
      go_wp2
      go_loopw [6] (fun jv wi => ∃ j : Nat, j ≤ nl ∧ jv = .int .i64 j ∧ Below w1.heap.size w1 wi ∧ Hid (R = needsE (W.take j) (W.drop j))) (fun jv _ => nl - (intOf jv).toNat)
      case atStart => exact ⟨0, Nat.zero_le _, rfl, Below.refl _ _, by show _ = _; rw [List.drop_zero]; exact HRn.out⟩
      case round =>
        obtain ⟨j, hj, rfl, hb, HJ⟩ := hrel
        have HBw : Hid (Below w.heap.size w wr) := HBE.out.trans (hb.mono HBE.out.size)
        have HBj : Hid (Below w1.heap.size w1 wr) := hb
        clear hb
        by_cases hjl : j < nl
        · have hjl' : (j : Int) < (nl : Int) := by omega
          have hjd : j < W.length := by have := HNl.out; omega
          obtain ⟨hna, hcs⟩ := HNC.out (by omega)
          subst hna
          have HCs : Hid (∀ wx, Below w.heap.size w wx → ∀ i (h : i < W.length), wx.cell? ⟨ng, noff + i * 2, none⟩ = some (.string W[i].nm) ∧ wx.cell? ⟨ng, noff + i * 2 + 1, none⟩ = some (.string W[i].rg)) := hcs
          obtain ⟨nd, hnd⟩ : ∃ x, x = W[j] := ⟨_, rfl⟩
          have HCj : Hid (∀ wx, Below w.heap.size w wx → wx.cell? ⟨ng, noff + j * 2, none⟩ = some (.string nd.nm) ∧ wx.cell? ⟨ng, noff + j * 2 + 1, none⟩ = some (.string nd.rg)) := fun wx hx => by rw [hnd]; exact hcs wx hx j hjd
          have HDj : Hid (W.drop j = nd :: W.drop (j + 1)) := by show _ = _; rw [List.drop_eq_getElem_cons hjd, hnd]
          have HTj : Hid (W.take (j + 1) = W.take j ++ [nd]) := by show _ = _; rw [List.take_succ_eq_append_getElem hjd, hnd]
          obtain ⟨hf1, hf2⟩ := HF3.out nd (by rw [hnd]; exact List.getElem_mem _)
          have hnm := refName_ok nd.nm hf1 wr
          obtain ⟨b2, hb2⟩ : ∃ b, b = nameI (vb nd.nm) := ⟨_, rfl⟩
          rw [← hb2] at hnm
          have HB2 : Hid (b2 = nameI (vb nd.nm)) := hb2
          obtain ⟨z2, hz2⟩ : ∃ z : Int, z = if (rangeS (vb nd.rg)).isNone = true then 21 else 0 := ⟨_, rfl⟩
          have HZ2 : Hid (z2 = if (rangeS (vb nd.rg)).isNone = true then 21 else 0) := hz2
          have HRc : Hid (∀ wx, Calls Tryz.prog 51 #[.string nd.rg] wx fun e w' => ∃ v : Value, e = .returned (.tuple #[v, .int .i64 z2]) ∧ Below wx.heap.size wx w') := fun wx => by rw [hz2]; exact refRange_code nd.rg wx hf2
          have hzc2 : z2 = 0 ∨ z2 = 21 := by rw [hz2]; split; exact Or.inr rfl; exact Or.inl rfl
          have c0 := (HCj.out wr HBw.out).1
          have c1 := (HCj.out wr HBw.out).2
          clear hcs hnd hf1 hf2 hb2 hz2
          go_wp2_with fail
          refine hnm.mono ?_
          rintro e w7 ⟨rfl, hw7⟩
          rw [hw7]
          clear hw7 hnm
          cases b2 with
          | false =>
            have HR17 : Hid (R = 17) := HJ.out.trans (needsE_17 HDj.out HB2.out)
            go_wp2
            go_ret
            exact ⟨by rw [HR17.out]; rfl, HBw.out⟩
          | true =>
            go_wp2_with fail
            refine (HRc.out wr).mono ?_
            rintro e w8 ⟨v8, rfl, hb8⟩
            have HB8 : Hid (Below w.heap.size w w8) := HBw.out.trans (hb8.mono HBw.out.size)
            have HBE8 : Hid (Below w1.heap.size w1 w8) := HBj.out.trans (hb8.mono HBj.out.size)
            clear hb8 c0 c1
            rcases hzc2 with hz | hz
            · subst hz
              have HV2 : Hid (¬ (rangeS (vb nd.rg)).isNone = true) := fun h => by
                have h2 := HZ2.out
                rw [if_pos h] at h2
                exact absurd h2 (by decide)
              go_wp2
              go_loopw [9] (fun iv wi => ∃ i : Nat, i ≤ j ∧ iv = .int .i64 i ∧ Below w8.heap.size w8 wi ∧ Hid (nd.nm ∉ (W.take i).map Ned.nm)) (fun iv _ => j - (intOf iv).toNat)
              case atStart => exact ⟨0, Nat.zero_le _, rfl, Below.refl _ _, by show _ ∉ _; simp⟩
              case round =>
                obtain ⟨i, hi, rfl, hb, HI⟩ := hrel
                have HB : Hid (Below w8.heap.size w8 wr) := hb
                have HBx : Hid (Below w.heap.size w wr) := HB8.out.trans (hb.mono HB8.out.size)
                have HBEx : Hid (Below w1.heap.size w1 wr) := HBE8.out.trans (hb.mono HBE8.out.size)
                clear hb
                by_cases hlt : i < j
                · have hlt' : (i : Int) < (j : Int) := by omega
                  have hil' : (i : Int) < (nl : Int) := by omega
                  have hid : i < W.length := by omega
                  obtain ⟨qn, hqn⟩ : ∃ x, x = W[i].nm := ⟨_, rfl⟩
                  have c0 := (HCj.out wr HBx.out).1
                  have cq := (HCs.out wr HBx.out i hid).1
                  rw [← hqn] at cq
                  have HTi : Hid ((W.take (i + 1)).map Ned.nm = (W.take i).map Ned.nm ++ [qn]) := by show _ = _; rw [List.take_succ_eq_append_getElem hid, List.map_append, hqn]; rfl
                  have HBq : Hid (∀ q, Below w8.heap.size w8 (wr.drewN q)) := fun q => HB.out.trans ⟨rfl, rfl, rfl, Nat.le_refl _, fun _ _ => rfl⟩
                  clear hqn
                  by_cases e1 : qn = nd.nm
                  · rw [e1] at cq
                    have HR13 : Hid (R = 13) := by
                      have hm : nd.nm ∈ (W.take j).map Ned.nm := by
                        have h1 : nd.nm ∈ (W.take (i + 1)).map Ned.nm := by rw [HTi.out, e1]; simp
                        obtain ⟨x, hx, he⟩ := List.mem_map.1 h1
                        exact List.mem_map.2 ⟨x, by
                          have h3 : W.take (i + 1) = (W.take j).take (i + 1) := by rw [List.take_take]; congr 1; omega
                          rw [h3] at hx
                          exact List.mem_of_mem_take hx, he⟩
                      exact HJ.out.trans (needsE_13 HDj.out HB2.out HV2.out hm)
                    clear e1
                    go_wp2
                    go_quiet (fail)
                    go_wp2
                    go_ret
                    exact ⟨by rw [HR13.out]; rfl, HB8.out.trans ((HBq.out _).mono HB8.out.size)⟩
                  · have hne1 : ¬ qn.toList = nd.nm.toList := fun e => e1 (list_eq.1 e)
                    have hne2 : (qn.toList == nd.nm.toList) = false := by simpa using hne1
                    have HI2 : Hid (nd.nm ∉ (W.take (i + 1)).map Ned.nm) := fun h => by
                      rw [HTi.out] at h
                      rcases List.mem_append.1 h with h | h
                      · exact HI.out h
                      · exact e1 (List.mem_singleton.1 h).symm
                    go_wp2
                    go_quiet (fail)
                    go_wp2
                    go_roundw
                    case rel => exact ⟨i + 1, by omega, by go_num, HBq.out _, HI2.out⟩
                    case measure => simp [intOf]; omega
                · have hlt' : ¬ (i : Int) < (j : Int) := by omega
                  obtain rfl : i = j := by omega
                  have HJ2 : Hid (R = needsE (W.take (i + 1)) (W.drop (i + 1))) := by
                    show _ = _
                    rw [HJ.out, HTj.out]
                    exact needsE_go HDj.out HB2.out HV2.out HI.out
                  go_wp2
                  go_roundw
                  case rel => exact ⟨i + 1, by omega, by go_num, HBEx.out, HJ2.out⟩
                  case measure => simp [intOf]; omega
            · subst hz
              have HR21 : Hid (R = 21) := by
                have h1 : (rangeS (vb nd.rg)).isNone = true := by
                  by_cases h : (rangeS (vb nd.rg)).isNone = true
                  · exact h
                  · have h2 := HZ2.out
                    rw [if_neg h] at h2
                    exact absurd h2 (by decide)
                exact HJ.out.trans (needsE_21 HDj.out HB2.out h1)
              go_wp2
              go_ret
              exact ⟨by rw [HR21.out]; rfl, HB8.out⟩
        · have hjl' : ¬ (j : Int) < (nl : Int) := by omega
          have HR0 : Hid (R = 0) := by
            show _ = _
            rw [HJ.out, List.drop_eq_nil_of_le (by have := HNl.out; omega)]
            rfl
          go_wp2
          go_ret
          exact ⟨by rw [HR0.out]; rfl, HBw.out⟩
end Go.Proofs.YtkbhckjpmgkgjaaGreatDoor
namespace Go.Proofs.YtkbhckjpmgkgjaaGreatDoor
open Go.RowKit
section
variable {P : Program} {ops : Array Oper} {C : World → Prop} {Q : Act → Prop} {a : Act} {o : Oper} {rest : List Oper}
theorem q_load_mid (ty : TypeId) (x : Operand) (ho : o.op = .load ty x) (hw : Region.wanted o (yielded ops a.tmps) = true) (b off : Nat) (cs : List Value) (d : TypeDesc) (hx : a.eval x = .pointer (some ⟨b, off, none⟩))
    (hC : ∀ w, C w → w.rangeAt b off cs) (hu : P.underlying ty = some d) (hd : d.isRow = true) (hi : (P.info? ty).map (·.size) = some cs.length)
    (k : wpQuiet P ops C Q rest (a.put o.dst (.agg cs.toArray))) : wpQuiet P ops C Q (o :: rest) a :=
  q_value (.agg cs.toArray) hw (fun w hw' => by
    unfold execOp
    simp only [ho, hx, Instr.loadAt, Instr.sureAddr, Sem.run_bind, Sem.run_pure, Result.andThen_ok, run_loadVar_mid w b off ty cs d (hC w hw') hu hd hi]) k
end
/-- Terms that may be. -/
def TmOk (t : Tm) : Prop := (t.1 = [42] ∨ (t.1 ∈ signsR ∧ May t.2)) ∧ t.2.tag.size ≤ 140737488355328
theorem mapO_mem {α β : Type} {f : α → Option β} : ∀ {L : List α} {D : List β}, mapO f L = some D → ∀ d ∈ D, ∃ l ∈ L, f l = some d := by
  intro L
  induction L with
  | nil => intro D h d hd; cases h; cases hd
  | cons x r ih =>
    intro D h d hd
    cases hx : f x with
    | none => rw [mapO_none hx] at h; cases h
    | some a =>
      rw [mapO_cons hx] at h
      cases hr : mapO f r with
      | none => rw [hr] at h; cases h
      | some l =>
        rw [hr] at h
        cases h
        rcases List.mem_cons.1 hd with rfl | hd
        · exact ⟨x, List.mem_cons_self, hx⟩
        · obtain ⟨y, h1, h2⟩ := ih hr d hd
          exact ⟨y, List.mem_cons_of_mem _ h1, h2⟩
theorem may_tag {v : Ver} (h : May v) : v.tag.size ≤ 140737488355328 := by
  rcases h.tag with h | h
  · rw [← vb_len, h]; decide
  · unfold tagB at h
    rw [Bool.and_eq_true, decide_eq_true_eq] at h
    have := h.1.2
    rw [← vb_len]
    omega
theorem termR_ok {l : By} {t : Tm} (h : termR l = some t) : TmOk t := by
  rcases term_pair l with ⟨h1, _⟩ | ⟨op, v, L, h1, _, h3⟩
  · rw [h1] at h; cases h
  · rw [h1] at h
    cases h
    rcases h3 with ⟨h4, h5, _⟩ | ⟨h4, h5, _⟩
    · exact ⟨Or.inl h4, by show v.tag.size ≤ _; rw [h5]; decide⟩
    · exact ⟨Or.inr ⟨h4, h5⟩, may_tag h5⟩
theorem parseR_ok {l : By} {P : List (List Tm)} (h : parseR l = some P) : ∀ a ∈ P, ∀ t ∈ a, TmOk t := by
  unfold parseR at h
  split at h
  · cases h
  · intro a ha t ht
    obtain ⟨y, _, hy⟩ := mapO_mem h a ha
    unfold altR at hy
    split at hy
    · cases hy
    · obtain ⟨z, _, hz⟩ := mapO_mem hy t ht
      exact termR_ok hz
theorem parseR_small {l : By} {P : List (List Tm)} (h : parseR l = some P) : P.length ≤ 16 ∧ ∀ a ∈ P, a.length ≤ 16 := by
  have hlen : ∀ {α β : Type} {f : α → Option β} {L : List α} {D : List β}, mapO f L = some D → D.length = L.length := by
    intro α β f L
    induction L with
    | nil => intro D h; cases h; rfl
    | cons x r ih =>
      intro D h
      cases hx : f x with
      | none => rw [mapO_none hx] at h; cases h
      | some a =>
        rw [mapO_cons hx] at h
        cases hr : mapO f r with
        | none => rw [hr] at h; cases h
        | some l => rw [hr] at h; cases h; rw [List.length_cons, List.length_cons, ih hr]
  unfold parseR at h
  split at h
  · cases h
  · rename_i h16
    refine ⟨by rw [hlen h]; omega, fun a ha => ?_⟩
    obtain ⟨y, _, hy⟩ := mapO_mem h a ha
    unfold altR at hy
    split at hy
    · cases hy
    · rename_i k16
      rw [hlen hy]
      omega
set_option maxRecDepth 40000 in
set_option maxHeartbeats 8000000 in
theorem refHasR_ok {v : Value} {P : List (List Tm)} {w : World} (hP : RgAt w v P) (hok : ∀ a ∈ P, ∀ t ∈ a, TmOk t) (hl : P.length ≤ 16 ∧ ∀ a ∈ P, a.length ≤ 16) (x : Ver) : Calls Tryz.prog 101 #[v, verV x] w fun e w' => e = .returned (.bool (hasR P x)) ∧ Below w.heap.size w w' := by
  have hb0 : Below w.heap.size w (w.alloc (.cells (verC x) 104)) := (Below.refl _ _).alloc (Nat.le_refl _) _
  have hr0 : Row (w.alloc (.cells (verC x) 104)) w.heap.size (verC x) 104 := Row.new _ _ _
  have hP0 := hP.keep (Nat.le_refl _) hb0
  obtain ⟨w0, hw0⟩ : ∃ y, y = w.alloc (.cells (verC x) 104) := ⟨_, rfl⟩
  have hw0' := hw0.symm
  rw [← hw0] at hb0 hr0 hP0
  obtain ⟨g, cap, rfl, hg, hrows⟩ := hP0.ex
  have HB0 : Hid (Below w.heap.size w w0) := hb0
  have HR0 : Hid (Row w0 w.heap.size (verC x) 104) := hr0
  have HRows : Hid (∀ i (h : i < P.length), ∃ av, w0.cell? ⟨g, i, none⟩ = some av ∧ AlAt w0 av P[i]) := hrows
  have HG : Hid (g < w0.heap.size) := hg
  have HOk : Hid (∀ a ∈ P, ∀ t ∈ a, TmOk t) := hok
  have HLn : Hid (∀ a ∈ P, a.length ≤ 16) := hl.2
  have hl1 := hl.1
  obtain ⟨R, hR⟩ : ∃ R, R = hasR P x := ⟨_, rfl⟩
  have HRe : Hid (R = hasR P x) := hR
  rw [← hR]
  obtain ⟨n, hn⟩ : ∃ n, n = P.length := ⟨_, rfl⟩
  have HN : Hid (n = P.length) := hn
  rw [← hn]
  rw [← hn] at hl1
  clear hb0 hr0 hP0 hw0 hrows hok hl hP hg hR hn
  go_enter Tryz.func101, Tryz.ntmps101
  go_wp2
  clear hw0'
  go_loopw [5] (fun iv wr => ∃ i : Nat, i ≤ n ∧ iv = .int .i64 i ∧ Below w0.heap.size w0 wr ∧ Hid (hasR (P.drop i) x = R)) (fun iv _ => n - (intOf iv).toNat)
  case atStart => exact ⟨0, Nat.zero_le _, rfl, Below.refl _ _, by rw [List.drop_zero]; exact HRe.out.symm⟩
  case round =>
    obtain ⟨i, hi, rfl, hb, HI⟩ := hrel
    have HB : Hid (Below w0.heap.size w0 wr) := hb
    clear hb
    by_cases hin : i < n
    · have hin' : (i : Int) < (n : Int) := by omega
      have hiP : i < P.length := by have := HN.out; omega
      obtain ⟨av, hav, hal⟩ := HRows.out i hiP
      obtain ⟨a, ha⟩ : ∃ a, a = P[i] := ⟨_, rfl⟩
      rw [← ha] at hal
      have HDrop : Hid (hasR (P.drop i) x = (hasA a x || hasR (P.drop (i + 1)) x)) := by
        show _ = _
        rw [List.drop_eq_getElem_cons hiP, ← ha]
        rfl
      have HOka : Hid (∀ t ∈ a, TmOk t) := HOk.out a (by rw [ha]; exact List.getElem_mem _)
      have hal16 : a.length ≤ 16 := HLn.out a (by rw [ha]; exact List.getElem_mem _)
      obtain ⟨ga, ca, rfl, hga, _, hrg0⟩ := hal.ex
      have HGA : Hid (ga < w0.heap.size) := hga
      have HRG : Hid (∀ k (h : k < a.length), w0.rangeAt ga (k * 7) (encM a[k])) := hrg0
      obtain ⟨al, hal2⟩ : ∃ al, al = a.length := ⟨_, rfl⟩
      have HAL : Hid (al = a.length) := hal2
      rw [← hal2] at hav hal16
      have HCell : Hid (∀ wx, Below w0.heap.size w0 wx → wx.cell? ⟨g, i, none⟩ = some (.slice (some ⟨ga, 0, none⟩) al ca)) := fun wx hx => (hx.cell (p := ⟨g, i, none⟩) HG.out).trans hav
      clear hal ha hga hrg0 hal2 hav
      go_wp2
      go_loopw [6, 7] (fun bv kv wi => ∃ (k : Nat) (b : Bool), k ≤ al ∧ kv = .int .i64 k ∧ bv = .bool b ∧ Below w0.heap.size w0 wi ∧ Hid ((b && hasA (a.drop k) x) = hasA a x)) (fun _ kv _ => al - (intOf kv).toNat)
      case atStart => exact ⟨0, true, Nat.zero_le _, rfl, rfl, HB.out, by rw [List.drop_zero]; rfl⟩
      case round =>
        obtain ⟨k, b, hk, rfl, rfl, hb, HK⟩ := hrel
        have hcell := HCell.out wr hb
        have HBi : Hid (Below w0.heap.size w0 wr) := hb
        clear hb
        by_cases hka : k < al
        · have hka' : (k : Int) < (al : Int) := by omega
          have hkA : k < a.length := by have := HAL.out; omega
          obtain ⟨t, ht⟩ : ∃ t, t = a[k] := ⟨_, rfl⟩
          have HDr : Hid (hasA (a.drop k) x = (hasO t.1 t.2 x && hasA (a.drop (k + 1)) x)) := by
            show _ = _
            rw [List.drop_eq_getElem_cons hkA, ← ht]
            rfl
          cases b with
          | true =>
            have htok : TmOk t := HOka.out t (by rw [ht]; exact List.getElem_mem _)
            have hrg : wr.rangeAt ga (k * 7) (encM t) := fun j u hj => (HBi.out.cell (p := ⟨ga, k * 7 + j, none⟩) HGA.out).trans (HRG.out k hkA j u (by rw [← ht]; exact hj))
            have hglt : g < wr.heap.size := Nat.lt_of_lt_of_le HG.out HBi.out.size
            have hgalt : ga < wr.heap.size := Nat.lt_of_lt_of_le HGA.out HBi.out.size
            have hbox : Row wr w.heap.size (verC x) 104 := Row.below HR0.out HBi.out (Row.lt HR0.out)
            obtain ⟨r, hr⟩ : ∃ r, r = hasO t.1 t.2 x := ⟨_, rfl⟩
            have HHas : Hid (∀ wx, Calls Tryz.prog 132 #[.agg (tmC (tx t.1) t.2), verV x] wx fun e w' => e = .returned (.bool r) ∧ Below wx.heap.size wx w') := fun wx => by
              have h := refHas_ok (op := tx t.1) (u := t.2) (by rw [vb_tx]; exact htok.1) htok.2 x wx
              rw [vb_tx, ← hr] at h
              exact h
            have HK2 : Hid ((r && hasA (a.drop (k + 1)) x) = hasA a x) := by
              show _ = _
              rw [hr, ← HDr.out]
              have h := HK.out
              rw [Bool.true_and] at h
              exact h
            clear ht htok hr
            go_wp2
            refine wp_region_quiet (C := fun wx => Below wr.heap.size wr wx) (by kernel_rfl) (by kernel_rfl) ((Below.refl _ _).drew) ?_
            simp only []
            refine q_value ?_ (by rfl) (fun wx hw => ?_) ?_
            rotate_left
            · go_simp
              with_reducible rfl
            simp only [Act.put, List.setIfInBounds_toArray, List.set_cons_zero, List.set_cons_succ]
            refine q_value ?_ (by rfl) (fun wx hw => ?_) ?_
            rotate_left
            · go_simp
              with_reducible rfl
            simp only [Act.put, List.setIfInBounds_toArray, List.set_cons_zero, List.set_cons_succ]
            refine q_value ?_ (by rfl) (fun wx hw => ?_) ?_
            rotate_left
            · go_simp
              with_reducible rfl
            simp only [Act.put, List.setIfInBounds_toArray, List.set_cons_zero, List.set_cons_succ]
            refine q_value ?_ (by rfl) (fun wx hw => ?_) ?_
            rotate_left
            · go_simp
              with_reducible rfl
            simp only [Act.put, List.setIfInBounds_toArray, List.set_cons_zero, List.set_cons_succ]
            refine q_value ?_ (by rfl) (fun wx hw => ?_) ?_
            rotate_left
            · go_simp
              with_reducible rfl
            simp only [Act.put, List.setIfInBounds_toArray, List.set_cons_zero, List.set_cons_succ]
            refine q_value (.slice (some ⟨ga, 0, none⟩) al ca) (by rfl) (fun wx hw => ?_) ?_
            · have hc := (hw.cell (p := ⟨g, i, none⟩) hglt).trans hcell
              go_simp
            simp only [Act.put, List.setIfInBounds_toArray, List.set_cons_zero, List.set_cons_succ]
            refine q_value ?_ (by rfl) (fun wx hw => ?_) ?_
            rotate_left
            · go_simp
              with_reducible rfl
            simp only [Act.put, List.setIfInBounds_toArray, List.set_cons_zero, List.set_cons_succ]
            refine q_value ?_ (by rfl) (fun wx hw => ?_) ?_
            rotate_left
            · go_simp
              with_reducible rfl
            simp only [Act.put, List.setIfInBounds_toArray, List.set_cons_zero, List.set_cons_succ]
            refine q_load_mid 159 _ rfl (by rfl) ga (k * 7) (encM t) _ rfl (fun wx hw => fun j u hj => (hw.cell (p := ⟨ga, k * 7 + j, none⟩) hgalt).trans (hrg j u hj)) Tryz.underlying159 rfl infoT ?_
            simp only [Act.put, List.setIfInBounds_toArray, List.set_cons_zero, List.set_cons_succ]
            refine q_load 104 _ rfl (by rfl) w.heap.size (verC x) 104 _ rfl (fun wx hw => Row.below hbox hw (Row.lt hbox)) Tryz.underlying104 rfl infoRs ?_
            simp only [Act.put, List.setIfInBounds_toArray, List.set_cons_zero, List.set_cons_succ]
            refine q_call (.bool r) (by rfl) 132 #[.agg (tmC (tx t.1) t.2), verV x] (fun w h => by go_simp) (fun wx hw => (HHas.out wx).mono fun e w' ⟨he, hb⟩ => ⟨he, hw.trans (hb.mono hw.size)⟩) ?_
            simp only [Act.put, List.setIfInBounds_toArray, List.set_cons_zero, List.set_cons_succ]
            refine q_value ?_ (by rfl) (fun wx hw => ?_) ?_
            rotate_left
            · go_simp
              with_reducible rfl
            simp only [Act.put, List.setIfInBounds_toArray, List.set_cons_zero, List.set_cons_succ]
            refine q_value ?_ (by rfl) (fun wx hw => ?_) ?_
            rotate_left
            · go_simp
              with_reducible rfl
            simp only [Act.put, List.setIfInBounds_toArray, List.set_cons_zero, List.set_cons_succ]
            refine wpQuiet_nil ?_
            intro wB hB
            try simp only [Exit.then]
            have HBB : Hid (Below w0.heap.size w0 wB) := HBi.out.trans (hB.mono HBi.out.size)
            clear hB hrg hcell hbox
            go_wp2
            go_roundw
            case rel => exact ⟨k + 1, r, by omega, by go_num, rfl, HBB.out, HK2.out⟩
            case measure => simp [intOf]; omega
          | false =>
            have HK2 : Hid ((false && hasA (a.drop (k + 1)) x) = hasA a x) := HK.out
            have HBn : Hid (∀ q, Below w0.heap.size w0 (wr.drewN q)) := fun q => HBi.out.trans ⟨rfl, rfl, rfl, Nat.le_refl _, fun _ _ => rfl⟩
            clear ht
            go_wp2
            go_quiet (fail)
            go_wp2
            go_roundw
            case rel => exact ⟨k + 1, false, by omega, by go_num, rfl, HBn.out _, HK2.out⟩
            case measure => simp [intOf]; omega
        · have hka' : ¬ (k : Int) < (al : Int) := by omega
          have HbA : Hid (b = hasA a x) := by
            have h := HK.out
            rw [List.drop_of_length_le (by have := HAL.out; omega)] at h
            show _ = _
            rw [← h]
            exact (Bool.and_true b).symm
          cases b with
          | true =>
            have HRT : Hid (R = true) := by show _ = _; rw [← HI.out, HDrop.out, ← HbA.out]; rfl
            have HBf : Hid (Below w.heap.size w wr) := HB0.out.trans (HBi.out.mono HB0.out.size)
            go_wp2
            go_ret
            exact ⟨by rw [HRT.out]; rfl, HBf.out⟩
          | false =>
            have HIn : Hid (hasR (P.drop (i + 1)) x = R) := by
              have h := HI.out
              rw [HDrop.out, ← HbA.out, Bool.false_or] at h
              exact h
            go_wp2
            go_roundw
            case rel => exact ⟨i + 1, by omega, by go_num, HBi.out, HIn.out⟩
            case measure => simp [intOf]; omega
    · have hin' : ¬ (i : Int) < (n : Int) := by omega
      have HRF : Hid (R = false) := by
        have h := HI.out
        rw [List.drop_of_length_le (by have := HN.out; omega)] at h
        exact h.symm
      have HBf : Hid (Below w.heap.size w wr) := HB0.out.trans (HB.out.mono HB0.out.size)
      go_wp2
      go_ret
      exact ⟨by rw [HRF.out]; rfl, HBf.out⟩
end Go.Proofs.YtkbhckjpmgkgjaaGreatDoor
namespace Go.Proofs.YtkbhckjpmgkgjaaGreatDoor
open Go.RowKit

theorem find_here {α : Type} {f : α → Bool} {l : List α} {i : Nat} (hi : i < l.length) (h0 : ∀ x ∈ l.take i, f x = false) (h1 : f l[i] = true) : l.find? f = some l[i] := by
  have e : l = l.take i ++ l[i] :: l.drop (i + 1) := by rw [← List.drop_eq_getElem_cons hi, List.take_append_drop]
  conv => lhs; rw [e]
  rw [List.find?_append, List.find?_eq_none.2 (fun x hx => by rw [h0 x hx]; decide), List.find?_cons_of_pos h1]
  rfl
theorem pick_here {P : List Ned} {s : ByteArray} {i : Nat} (hi : i < P.length) (h0 : ∀ q ∈ P.take i, q.nm ≠ s) (h1 : P[i].nm = s) : pickOf P s = some P[i] :=
  find_here hi (fun q hq => decide_eq_false (h0 q hq)) (decide_eq_true h1)
theorem pack_here {L : List Pak} {k : Rl} {i : Nat} (hi : i < L.length) (h0 : ∀ q ∈ L.take i, q.key ≠ k) (h1 : L[i].key = k) : packOf L k = some L[i] :=
  find_here hi (fun q hq => decide_eq_false (h0 q hq)) (decide_eq_true h1)
/-- What pick tells. -/
def pickE (P : List Ned) (s : ByteArray) : Value := match pickOf P s with
  | some q => .tuple #[.string q.rg, .bool true]
  | none => .tuple #[.string ⟨#[]⟩, .bool false]
theorem pickE_some {P : List Ned} {s : ByteArray} {q : Ned} (h : pickOf P s = some q) : pickE P s = .tuple #[.string q.rg, .bool true] := by unfold pickE; rw [h]
theorem pickE_none {P : List Ned} {s : ByteArray} (h : pickOf P s = none) : pickE P s = .tuple #[.string ⟨#[]⟩, .bool false] := by unfold pickE; rw [h]
set_option maxRecDepth 20000 in
set_option maxHeartbeats 4000000 in
theorem pick_ok {P : List Ned} {pa : Option Addr} {pc : Nat} (s : ByteArray) (w : World) (hP : NeedsIn w (.slice pa P.length pc) P) (hl : P.length ≤ 140737488355328) : Calls Tryz.prog 67 #[.slice pa P.length pc, .string s] w fun e w' => e = .returned (pickE P s) ∧ w' = w := by
  obtain ⟨a1, g, off, c1, he, h2, h3, h4, h5⟩ := hP.ex
  simp only [Value.slice.injEq, true_and] at he
  obtain ⟨rfl, rfl⟩ := he
  have HA1 : Hid (0 < P.length → pa = some ⟨g, off, none⟩) := fun h => (h3 h).1
  have HA5 : Hid (∀ i (h : i < P.length), w.cell? ⟨g, off + i * 2, none⟩ = some (.string P[i].nm) ∧ w.cell? ⟨g, off + i * 2 + 1, none⟩ = some (.string P[i].rg)) := fun i hi => ⟨h5 i hi 0 _ rfl, h5 i hi 1 _ rfl⟩
  obtain ⟨n, hn⟩ : ∃ n, n = P.length := ⟨_, rfl⟩
  have HN : Hid (n = P.length) := hn
  rw [← hn]
  rw [← hn] at h2 hl
  clear hP h3 h4 h5 hn
  go_enter Tryz.func67, Tryz.ntmps67
  go_wp2
  go_loop [6] (fun iv => ∃ i : Nat, i ≤ n ∧ iv = .int .i64 i ∧ Hid (∀ q ∈ P.take i, q.nm ≠ s)) (fun iv => n - (intOf iv).toNat)
  case atStart => exact ⟨0, Nat.zero_le _, rfl, fun q hq => by simp at hq⟩
  case round =>
    obtain ⟨i, hi, rfl, HI⟩ := hrel
    by_cases hlt : i < n
    · have hlt' : (i : Int) < (n : Int) := by omega
      have hiP : i < P.length := by have := HN.out; omega
      obtain rfl := HA1.out (by omega)
      obtain ⟨c0, c1⟩ := HA5.out i hiP
      obtain ⟨nm, hnm⟩ : ∃ x, x = P[i].nm := ⟨_, rfl⟩
      obtain ⟨vr, hvr⟩ : ∃ x, x = P[i].rg := ⟨_, rfl⟩
      rw [← hnm] at c0
      rw [← hvr] at c1
      by_cases e : nm = s
      · have HE : Hid (pickE P s = .tuple #[.string vr, .bool true]) := by
          show _ = _
          rw [pickE_some (pick_here hiP HI.out (hnm.symm.trans e)), hvr]
        rw [e] at c0
        clear hnm hvr e
        go_wp2
        go_ret2
        exact ⟨by rw [HE.out]; rfl, rfl⟩
      · have HI1 : Hid (∀ q ∈ P.take (i + 1), q.nm ≠ s) := fun q hq => by
          rw [List.take_succ_eq_append_getElem hiP] at hq
          rcases List.mem_append.1 hq with hq | hq
          · exact HI.out q hq
          · rw [List.mem_singleton.1 hq, ← hnm]; exact e
        have hne1 : ¬ nm.toList = s.toList := fun k => e (list_eq.1 k)
        have hne2 : (nm.toList == s.toList) = false := by simpa using hne1
        clear hnm hvr e
        go_wp2
        go_round
        case rel => exact ⟨i + 1, by omega, by go_num, HI1.out⟩
        case measure => simp [intOf]; omega
    · have hlt' : ¬ (i : Int) < (n : Int) := by omega
      have HE : Hid (pickE P s = .tuple #[.string ⟨#[]⟩, .bool false]) := by
        show _ = _
        rw [pickE_none]
        rw [pickOf_none]
        intro hm
        obtain ⟨q, hq, he⟩ := List.mem_map.1 hm
        exact HI.out q (by rw [List.take_of_length_le (by have := HN.out; omega)]; exact hq) he
      go_wp2
      go_ret2
      exact ⟨by rw [HE.out]; rfl, rfl⟩
set_option maxRecDepth 20000 in
set_option maxHeartbeats 4000000 in
theorem needs_ok {L : List Pak} {pa : Option Addr} {pc : Nat} (s v : ByteArray) (p : Pak) (w : World) (hL : PacksIn w (.slice pa L.length pc) L) (hl : L.length ≤ 140737488355328) (hp : packOf L (s, v) = some p) : Calls Tryz.prog 68 #[.slice pa L.length pc, .agg #[.string s, .string v]] w fun e w' => ∃ na nc, e = .returned (.slice na p.nd.length nc) ∧ NeedsIn w' (.slice na p.nd.length nc) p.nd ∧ Below w.heap.size w w' := by
  obtain ⟨a1, g, off, c1, he, h2, h3, h4, h5⟩ := hL.ex
  simp only [Value.slice.injEq, true_and] at he
  obtain ⟨rfl, rfl⟩ := he
  have HA1 : Hid (0 < L.length → pa = some ⟨g, off, none⟩) := fun h => (h3 h).1
  have HA5 : Hid (∀ i (h : i < L.length), ∃ na nc, (∀ wx, Below w.heap.size w wx → wx.cell? ⟨g, off + i * 3, none⟩ = some (.string L[i].nm) ∧ wx.cell? ⟨g, off + i * 3 + 1, none⟩ = some (.string L[i].vr) ∧ wx.cell? ⟨g, off + i * 3 + 2, none⟩ = some (.slice na L[i].nd.length nc)) ∧ ∀ wx, Below w.heap.size w wx → NeedsIn wx (.slice na L[i].nd.length nc) L[i].nd) := fun i hi => by
    obtain ⟨nv, k1, k2⟩ := h5 i hi
    have k2' := k2
    obtain ⟨na, _, _, nc, rfl, _⟩ := k2.ex
    exact ⟨na, nc, fun wx hx => ⟨(hx.cell (p := ⟨g, off + i * 3 + 0, none⟩) (h3 (by omega)).2).trans (k1 0 _ rfl), (hx.cell (p := ⟨g, off + i * 3 + 1, none⟩) (h3 (by omega)).2).trans (k1 1 _ rfl), (hx.cell (p := ⟨g, off + i * 3 + 2, none⟩) (h3 (by omega)).2).trans (k1 2 _ rfl)⟩, fun wx hx => k2'.keep (Nat.le_refl _) hx⟩
  have hr1 : Row (w.alloc (.cells #[.string s, .string v] 82)) w.heap.size #[.string s, .string v] 82 := Row.new _ _ _
  have hb1 : Below w.heap.size w (w.alloc (.cells #[.string s, .string v] 82)) := (Below.refl _ _).alloc (Nat.le_refl _) _
  obtain ⟨w1, hw1⟩ : ∃ x, x = w.alloc (.cells #[.string s, .string v] 82) := ⟨_, rfl⟩
  have hw1' := hw1.symm
  rw [← hw1] at hr1 hb1
  have HR1 : Hid (Row w1 w.heap.size #[.string s, .string v] 82) := hr1
  have HB1 : Hid (Below w.heap.size w w1) := hb1
  obtain ⟨n, hn⟩ : ∃ n, n = L.length := ⟨_, rfl⟩
  have HN : Hid (n = L.length) := hn
  rw [← hn]
  rw [← hn] at h2 hl
  have HP : Hid (packOf L (s, v) = some p) := hp
  obtain ⟨RP, hRP⟩ : ∃ RP : Ending → World → Prop, RP = fun e w' => ∃ na nc, e = .returned (.slice na p.nd.length nc) ∧ NeedsIn w' (.slice na p.nd.length nc) p.nd ∧ Below w.heap.size w w' := ⟨_, rfl⟩
  have HRP : Hid (∀ na nc nl w', nl = p.nd.length → NeedsIn w' (.slice na nl nc) p.nd → Below w.heap.size w w' → RP (.returned (.slice na nl nc)) w') := fun na nc nl w' h1 h2 h3 => by subst h1; rw [hRP]; exact ⟨na, nc, rfl, h2, h3⟩
  rw [← hRP]
  clear hL h3 h4 h5 hn hp hw1 hr1 hb1 hRP
  go_enter Tryz.func68, Tryz.ntmps68
  go_wp2
  go_loopw [5] (fun iv wi => ∃ i : Nat, i ≤ n ∧ iv = .int .i64 i ∧ Below w1.heap.size w1 wi ∧ Hid (∀ q ∈ L.take i, q.key ≠ (s, v))) (fun iv _ => n - (intOf iv).toNat)
  case atStart => exact ⟨0, Nat.zero_le _, rfl, Below.refl _ _, fun q hq => by simp at hq⟩
  case round =>
    obtain ⟨i, hi, rfl, hb, HI⟩ := hrel
    have HB : Hid (Below w1.heap.size w1 wr) := hb
    have hrr : Row wr w.heap.size #[.string s, .string v] 82 := HR1.out.below hb HR1.out.lt
    have d0 : wr.cell? ⟨w.heap.size, 0, none⟩ = some (.string s) := (hrr.cell 0).trans rfl
    have d1 : wr.cell? ⟨w.heap.size, 1, none⟩ = some (.string v) := (hrr.cell 1).trans rfl
    have HBw : Hid (Below w.heap.size w wr) := HB1.out.trans (hb.mono HB1.out.size)
    clear hb hrr
    by_cases hlt : i < n
    · have hlt' : (i : Int) < (n : Int) := by omega
      have hiL : i < L.length := by have := HN.out; omega
      obtain rfl := HA1.out (by omega)
      obtain ⟨na, nc, hcs, hnin⟩ := HA5.out i hiL
      obtain ⟨c0, c1, -⟩ := hcs wr HBw.out
      have HCs : Hid (∀ wx, Below w.heap.size w wx → wx.cell? ⟨g, off + i * 3 + 2, none⟩ = some (.slice na L[i].nd.length nc)) := fun wx hx => (hcs wx hx).2.2
      have HNi : Hid (∀ wx, Below w.heap.size w wx → NeedsIn wx (.slice na L[i].nd.length nc) L[i].nd) := hnin
      obtain ⟨nm, hnm⟩ : ∃ x, x = L[i].nm := ⟨_, rfl⟩
      obtain ⟨vr, hvr⟩ : ∃ x, x = L[i].vr := ⟨_, rfl⟩
      rw [← hnm] at c0
      rw [← hvr] at c1
      have HKy : Hid (L[i].key = (nm, vr)) := by show (L[i].nm, L[i].vr) = _; rw [hnm, hvr]
      have HGo : Hid ((nm, vr) ≠ (s, v) → ∀ q ∈ L.take (i + 1), q.key ≠ (s, v)) := fun hne q hq => by
        rw [List.take_succ_eq_append_getElem hiL] at hq
        rcases List.mem_append.1 hq with hq | hq
        · exact HI.out q hq
        · rw [List.mem_singleton.1 hq, HKy.out]; exact hne
      have HBq : Hid (∀ q, Below w1.heap.size w1 (wr.drewN q)) := fun q => HB.out.trans ⟨rfl, rfl, rfl, Nat.le_refl _, fun _ _ => rfl⟩
      clear hcs hnin hnm hvr
      by_cases e1 : nm = s
      · rw [e1] at c0
        by_cases e2 : vr = v
        · rw [e2] at c1
          have HLp : Hid (L[i] = p) := by
            have h := pack_here hiL HI.out (by rw [HKy.out, e1, e2])
            rw [HP.out] at h
            exact (Option.some.inj h).symm
          obtain ⟨nl, hnl⟩ : ∃ nl, nl = L[i].nd.length := ⟨_, rfl⟩
          rw [← hnl] at HCs HNi
          have HNl : Hid (nl = p.nd.length) := by show _ = _; rw [hnl, HLp.out]
          clear e1 e2 hnl
          go_wp2
          go_quiet (fail)
          generalize hwq : wr.drewN _ = wq at *
          have hbq : Below w1.heap.size w1 wq := by rw [← hwq]; exact HBq.out _
          have hbq2 : Below w.heap.size w wq := HB1.out.trans (hbq.mono HB1.out.size)
          have c2 := HCs.out wq hbq2
          have HF : Hid (RP (.returned (.slice na nl nc)) wq) := HRP.out na nc nl wq HNl.out (by
            have h := HNi.out wq hbq2
            rw [HLp.out] at h
            exact h) hbq2
          clear hwq hbq hbq2
          go_wp2
          exact HF.out
        · have hne1 : ¬ vr.toList = v.toList := fun e => e2 (list_eq.1 e)
          have hne2 : (vr.toList == v.toList) = false := by simpa using hne1
          have HI1 : Hid (∀ q ∈ L.take (i + 1), q.key ≠ (s, v)) := HGo.out fun e => e2 (congrArg Prod.snd e)
          clear e1
          go_wp2
          go_quiet (fail)
          go_wp2
          go_roundw
          case rel => exact ⟨i + 1, by omega, by go_num, HBq.out _, HI1.out⟩
          case measure => simp [intOf]; omega
      · have hne1 : ¬ nm.toList = s.toList := fun e => e1 (list_eq.1 e)
        have hne2 : (nm.toList == s.toList) = false := by simpa using hne1
        have HI1 : Hid (∀ q ∈ L.take (i + 1), q.key ≠ (s, v)) := HGo.out fun e => e1 (congrArg Prod.fst e)
        go_wp2
        go_quiet (fail)
        go_wp2
        go_roundw
        case rel => exact ⟨i + 1, by omega, by go_num, HBq.out _, HI1.out⟩
        case measure => simp [intOf]; omega
    · exfalso
      obtain ⟨h1, h2⟩ := packOf_some HP.out
      exact HI.out p (by rw [List.take_of_length_le (by have := HN.out; omega)]; exact h1) h2
/-- Is a need met? -/
noncomputable def metB (P : List Ned) (n : Ned) : Bool := @decide (metP P n) (Classical.propDecidable _)
theorem metB_none {P : List Ned} {n : Ned} (h : pickOf P n.nm = none) : metB P n = false := by
  unfold metB
  refine @decide_eq_false _ (Classical.propDecidable _) ?_
  rintro ⟨q, h1, _⟩
  rw [h] at h1
  cases h1
theorem metB_some {P : List Ned} {n q : Ned} {C : List Cut} {x : Ver} (h : pickOf P n.nm = some q) (hC : rangeS (vb n.rg) = some C) (hx : parseV (vb q.rg) = some x) : metB P n = hasV C x := by
  unfold metB
  cases hh : hasV C x with
  | true => exact @decide_eq_true _ (Classical.propDecidable _) ⟨q, h, C, x, hC, hx, hh⟩
  | false =>
    refine @decide_eq_false _ (Classical.propDecidable _) ?_
    rintro ⟨q', h1, C', x', h2, h3, h4⟩
    rw [h] at h1
    cases h1
    rw [hC] at h2
    cases h2
    rw [hx] at h3
    cases h3
    rw [hh] at h4
    cases h4
/-- Picks whose versions are versions. -/
def VrS (P : List Ned) : Prop := ∀ q ∈ P, ∃ x, parseV (vb q.rg) = some x
set_option maxRecDepth 20000 in
set_option maxHeartbeats 4000000 in
theorem met_ok {P : List Ned} {pa : Option Addr} {pc : Nat} (n : Ned) (w : World) (hP : NeedsIn w (.slice pa P.length pc) P) (hl : P.length ≤ 140737488355328) (hV : VrS P) (hs : ∀ q ∈ P, q.rg.size ≤ 140737488355328) (hR : ∃ C, rangeS (vb n.rg) = some C) (hr : n.rg.size ≤ 4194304) : Calls Tryz.prog 66 #[.slice pa P.length pc, .agg #[.string n.nm, .string n.rg]] w fun e w' => e = .returned (.bool (metB P n)) ∧ Below w.heap.size w w' := by
  have hr1 : Row (w.alloc (.cells #[.string n.nm, .string n.rg] 61)) w.heap.size #[.string n.nm, .string n.rg] 61 := Row.new _ _ _
  have hb1 : Below w.heap.size w (w.alloc (.cells #[.string n.nm, .string n.rg] 61)) := (Below.refl _ _).alloc (Nat.le_refl _) _
  obtain ⟨w1, hw1⟩ : ∃ x, x = w.alloc (.cells #[.string n.nm, .string n.rg] 61) := ⟨_, rfl⟩
  have hw1' := hw1.symm
  rw [← hw1] at hr1 hb1
  have HR1 : Hid (Row w1 w.heap.size #[.string n.nm, .string n.rg] 61) := hr1
  have HB1 : Hid (Below w.heap.size w w1) := hb1
  have d0 : w1.cell? ⟨w.heap.size, 0, none⟩ = some (.string n.nm) := (hr1.cell 0).trans rfl
  have hpk := pick_ok n.nm w1 (hP.keep (Nat.le_refl _) hb1) hl
  cases hq : pickOf P n.nm with
  | none =>
    rw [pickE_none hq] at hpk
    have HM : Hid (metB P n = false) := metB_none hq
    clear hw1 hr1 hb1 hP hV hs hR hr hq
    go_enter Tryz.func66, Tryz.ntmps66
    go_wp2_with fail
    refine hpk.mono ?_
    rintro e w2 ⟨rfl, hw2⟩
    rw [hw2]
    clear hw2 hpk
    go_wp2
    go_ret
    exact ⟨by rw [HM.out]; rfl, HB1.out⟩
  | some q =>
    rw [pickE_some hq] at hpk
    obtain ⟨C, hC⟩ := hR
    obtain ⟨x, hx⟩ := hV q (pickOf_some hq).1
    have HM : Hid (metB P n = hasV C x) := metB_some hq hC hx
    have hsq := hs q (pickOf_some hq).1
    have HPs : Hid (∀ wx, Calls Tryz.prog 50 #[.string q.rg] wx fun e w' => e = .returned (.tuple #[verV x, .int .i64 0]) ∧ Below wx.heap.size wx w') := fun wx => by rw [← parseE_yes hx]; exact refParse_ok q.rg wx hsq
    rcases range_pair (vb n.rg) with ⟨_, g2⟩ | ⟨Pr, C2, g1, g2, _, g4⟩
    · rw [hC] at g2; cases g2
    rw [hC] at g2
    cases g2
    have HRp : Hid (∀ wx, Calls Tryz.prog 51 #[.string n.rg] wx (PrPost (some Pr) wx)) := fun wx => by rw [← g1]; exact refRange_ok n.rg wx hr
    have HOk : Hid (∀ a ∈ Pr, ∀ t ∈ a, TmOk t) := parseR_ok g1
    have HSm : Hid (Pr.length ≤ 16 ∧ ∀ a ∈ Pr, a.length ≤ 16) := parseR_small g1
    have HHs : Hid (hasV C x = hasR Pr x) := g4 x (parse_may hx)
    obtain ⟨vq, hvq⟩ : ∃ v, v = q.rg := ⟨_, rfl⟩
    rw [← hvq] at hpk HPs
    clear hw1 hr1 hb1 hP hV hs hr hq hC hx hsq g1 g4 hvq
    go_enter Tryz.func66, Tryz.ntmps66
    go_wp2_with fail
    refine hpk.mono ?_
    rintro e w2 ⟨rfl, hw2⟩
    rw [hw2]
    clear hw2 hpk
    go_wp2_with fail
    refine (HPs.out w1).mono ?_
    rintro e w4 ⟨rfl, hb4⟩
    have HB4 : Hid (Below w1.heap.size w1 w4) := hb4
    have hb5 : Below w4.heap.size w4 (w4.alloc (.cells (verC x) 104)) := (Below.refl _ _).alloc (Nat.le_refl _) _
    have hr5 : Row (w4.alloc (.cells (verC x) 104)) w4.heap.size (verC x) 104 := Row.new _ _ _
    obtain ⟨w5, hw5⟩ : ∃ x', x' = w4.alloc (.cells (verC x) 104) := ⟨_, rfl⟩
    rw [← hw5] at hb5 hr5
    have hw5' := hw5.symm
    obtain ⟨k5, hk5⟩ : ∃ k, k = w4.heap.size := ⟨_, rfl⟩
    have hk5' := hk5.symm
    rw [← hk5] at hr5
    have HB5 : Hid (Below w1.heap.size w1 w5) := HB4.out.trans (hb5.mono HB4.out.size)
    have HR5 : Hid (Row w5 k5 (verC x) 104) := hr5
    have hr5n : Row w5 w.heap.size #[.string n.nm, .string n.rg] 61 := HR1.out.below HB5.out HR1.out.lt
    have d1 : w5.cell? ⟨w.heap.size, 1, none⟩ = some (.string n.rg) := (hr5n.cell 1).trans rfl
    clear hb4 hb5 hw5 hk5 hr5 hr5n d0
    go_wp2_with (first | (refine wpList_store_new rfl 104 _ _ rfl w4 zeroC (verC x) 104 rfl w4.heap.size rfl rfl rfl infoRs rfl (verC_one x) ?_; rw [hw5']; rw [hk5']) | fail)
    refine (HRp.out w5).mono ?_
    rintro e w6 (⟨h, _⟩ | ⟨P1, y, hP1, rfl, hrg, hb6⟩)
    · cases h
    · obtain rfl : Pr = P1 := Option.some.inj hP1
      have HB6 : Hid (Below w1.heap.size w1 w6) := HB5.out.trans (hb6.mono HB5.out.size)
      have hr6 : Row w6 k5 (verC x) 104 := HR5.out.below hb6 HR5.out.lt
      have hh := refHasR_ok hrg HOk.out HSm.out x
      obtain ⟨yg, yc, rfl, _⟩ := hrg.ex
      rw [← HHs.out, ← HM.out] at hh
      clear hP1 hb6 d1
      go_wp2_with (first | refine wpList_load_row rfl 104 _ rfl k5 rfl 104 (verC x) (0, 0) _ hr6 Tryz.underlying104 rfl infoRs ?_ | fail)
      refine hh.mono ?_
      rintro e w7 ⟨rfl, hb7⟩
      have HB7 : Hid (Below w.heap.size w w7) := HB1.out.trans ((HB6.out.trans (hb7.mono HB6.out.size)).mono HB1.out.size)
      clear hh hb7 hr6
      go_wp2
      go_ret
      exact ⟨rfl, HB7.out⟩
end Go.Proofs.YtkbhckjpmgkgjaaGreatDoor
namespace Go.Proofs.YtkbhckjpmgkgjaaGreatDoor
open Go.RowKit

/-- Texts of one's own. -/
structure NkR (w wr : World) (X : List ByteArray) (ov : Value) : Prop where
  own : wr.ownsRow w.heap.size 9 1 ov X.length (X.map Value.string)
  old : Below w.heap.size w wr
theorem NkR.next {w wr w' : World} {X : List ByteArray} {ov : Value} (h : NkR w wr X ov) (hb : Below wr.heap.size wr w') : NkR w w' X ov := ⟨own_belowS h.own hb, h.old.trans (hb.mono h.old.size)⟩
set_option maxRecDepth 40000 in
set_option maxHeartbeats 16000000 in
theorem names_ok {L : List Pak} {pa : Option Addr} {pc : Nat} (w : World) (hL : PacksIn w (.slice pa L.length pc) L) (hl : L.length ≤ 1000) : Calls Tryz.prog 64 #[.slice pa L.length pc] w fun e w' => ∃ (X : List ByteArray) (ov : Value), e = .returned ov ∧ X.length ≤ L.length ∧ NkR w w' X ov := by
  obtain ⟨a1, g, off, c1, he, h2, h3, h4, h5⟩ := hL.ex
  simp only [Value.slice.injEq, true_and] at he
  obtain ⟨rfl, rfl⟩ := he
  have HA1 : Hid (0 < L.length → pa = some ⟨g, off, none⟩) := fun h => (h3 h).1
  have HA5 : Hid (∀ i (h : i < L.length) wx, Below w.heap.size w wx → wx.cell? ⟨g, off + i * 3, none⟩ = some (.string L[i].nm)) := fun i hi wx hx => by
    obtain ⟨nv, k1, k2⟩ := h5 i hi
    exact (hx.cell (p := ⟨g, off + i * 3 + 0, none⟩) (h3 (by omega)).2).trans (k1 0 _ rfl)
  obtain ⟨RP, hRP⟩ : ∃ RP : Ending → World → Prop, RP = fun e w' => ∃ (X : List ByteArray) (ov : Value), e = .returned ov ∧ X.length ≤ L.length ∧ NkR w w' X ov := ⟨_, rfl⟩
  have HRP : Hid (∀ X ov w', X.length ≤ L.length → NkR w w' X ov → RP (.returned ov) w') := fun X ov w' h1 h2 => by rw [hRP]; exact ⟨X, ov, rfl, h1, h2⟩
  rw [← hRP]
  obtain ⟨n, hn⟩ : ∃ n, n = L.length := ⟨_, rfl⟩
  have HN : Hid (n = L.length) := hn
  rw [← hn] at h2 hl ⊢
  have H0 : Hid (NkR w w [] (.slice none 0 0)) := ⟨World.ownsRow_nil _ _ _ _, Below.refl _ _⟩
  clear hL h3 h4 h5 hn hRP
  go_enter Tryz.func64, Tryz.ntmps64
  go_wp2
  go_loopw [3, 4] (fun ov iv wr => ∃ (i : Nat) (X : List ByteArray), i ≤ n ∧ iv = .int .i64 i ∧ X.length ≤ i ∧ Hid (NkR w wr X ov)) (fun _ iv _ => n - (intOf iv).toNat)
  case atStart => exact ⟨0, [], Nat.zero_le _, rfl, Nat.le_refl _, H0⟩
  case round =>
    obtain ⟨i, X, hi, rfl, hXi, HRX⟩ := hrel
    clear H0
    by_cases hlt : i < n
    · have hlt' : (i : Int) < (n : Int) := by omega
      have hiL : i < L.length := by have := HN.out; omega
      obtain rfl := HA1.out (by omega)
      obtain ⟨s, hs⟩ : ∃ s, s = L[i].nm := ⟨_, rfl⟩
      have HLS : Hid (∀ wx, Below w.heap.size w wx → wx.cell? ⟨g, off + i * 3, none⟩ = some (.string s)) := fun wx hx => by rw [hs]; exact HA5.out i hiL wx hx
      obtain ⟨oa, og, oc, hov, hoc, hoa, hon, hog, hocell⟩ := slice_form (NkR.own HRX.out)
      obtain ⟨m, hm⟩ : ∃ m, m = X.length := ⟨_, rfl⟩
      have HM : Hid (m = X.length) := hm
      have HOA : Hid (0 < X.length → oa = some ⟨og, 0, none⟩) := hoa
      have HON : Hid (oa = none → oc = 0) := hon
      have HOG : Hid (∀ g', oa = some g' → g' = ⟨og, 0, none⟩) := hog
      subst hov
      rw [← hm] at hoc HRX hXi
      have HOC : Hid (∀ wx, Below wr.heap.size wr wx → ∀ j (h : j < X.length), wx.cell? ⟨og, j, none⟩ = some (.string X[j])) := fun wx hx j hj => by
        have hlt2 : og < wr.heap.size := (own_lt (NkR.own HRX.out) og (by rw [hoa (by omega)]; rfl)).2
        rw [hx.cell (p := ⟨og, j, none⟩) hlt2, hocell j hj, List.getElem?_map, List.getElem?_eq_getElem hj]
        rfl
      obtain ⟨wE, rfl⟩ : ∃ x, x = wr := ⟨wr, rfl⟩
      rw [← hm]
      clear hs hm hoa hon hog hocell
      go_wp2
      go_loopw [5] (fun kv wq => ∃ k : Nat, k ≤ m ∧ kv = .int .i64 k ∧ Below wE.heap.size wE wq) (fun kv _ => m - (intOf kv).toNat)
      case atStart => exact ⟨0, Nat.zero_le _, rfl, Below.refl _ _⟩
      case round =>
        obtain ⟨k, hk, rfl, hb⟩ := hrel
        have HB : Hid (Below wE.heap.size wE wr) := hb
        have HBw : Hid (Below w.heap.size w wr) := HRX.out.old.trans (hb.mono HRX.out.old.size)
        have HBq : Hid (∀ q, Below wE.heap.size wE (wr.drewN q)) := fun q => HB.out.trans ⟨rfl, rfl, rfl, Nat.le_refl _, fun _ _ => rfl⟩
        have HBq2 : Hid (∀ q q', Below wE.heap.size wE ((wr.drewN q).drewN q')) := fun q q' => (HBq.out q).trans ⟨rfl, rfl, rfl, Nat.le_refl _, fun _ _ => rfl⟩
        clear hb
        by_cases hkm : k < m
        · have hkm' : (k : Int) < (m : Int) := by omega
          have hkd : decide ((k : Int) < (m : Int)) = true := decide_eq_true hkm'
          have hkn : decide (k < m) = true := decide_eq_true hkm
          have hkX : k < X.length := by have := HM.out; omega
          obtain rfl := HOA.out (by omega)
          have cx := HOC.out wr HB.out k hkX
          have cs := HLS.out wr HBw.out
          obtain ⟨x, hx⟩ : ∃ x, x = X[k] := ⟨_, rfl⟩
          rw [← hx] at cx
          have HXK : Hid (X[k] = x) := hx.symm
          clear hx
          cases hbl : Op.bytesLess x.toList s.toList with
          | true =>
            go_wp2
            go_quiet (fail)
            go_wp2
            go_roundw
            case rel => exact ⟨k + 1, by omega, by go_num, HBq.out _⟩
            case measure => simp [intOf]; omega
          | false =>
            by_cases he : x = s
            · have HXS : Hid (X[k] = s) := HXK.out.trans he
              rw [he] at cx hbl
              clear he
              go_wp2
              go_quiet (fail)
              generalize hwq : wr.drewN _ = wq at *
              have hbq : Below wE.heap.size wE wq := by rw [← hwq]; exact HBq.out _
              have HBz : Hid (∀ q, Below wE.heap.size wE (wq.drewN q)) := fun q => hbq.trans ⟨rfl, rfl, rfl, Nat.le_refl _, fun _ _ => rfl⟩
              have cx2 := HOC.out wq hbq k hkX
              have cs2 := HLS.out wq (HRX.out.old.trans (hbq.mono HRX.out.old.size))
              have hxs : X[k] = s := HXS.out
              rw [hxs] at cx2
              clear hwq cx cs hbq
              go_wp2
              go_quiet (fail)
              go_wp2
              go_roundw
              case rel => exact ⟨i + 1, X, by omega, by go_num, by have := HM.out; omega, HRX.out.next (HBz.out _)⟩
              case measure => simp [intOf]; omega
            · have hne1 : ¬ x.toList = s.toList := fun e => he (list_eq.1 e)
              have hne2 : (x.toList == s.toList) = false := by simpa using hne1
              go_wp2
              go_quiet (fail)
              generalize hwq : wr.drewN _ = wq at *
              have hbq : Below wE.heap.size wE wq := by rw [← hwq]; exact HBq.out _
              have HBz : Hid (∀ q, Below wE.heap.size wE (wq.drewN q)) := fun q => hbq.trans ⟨rfl, rfl, rfl, Nat.le_refl _, fun _ _ => rfl⟩
              have cx2 := (HOC.out wq hbq k hkX)
              have cs2 := HLS.out wq (HRX.out.old.trans (hbq.mono HRX.out.old.size))
              have hxs : X[k] = x := HXK.out
              rw [hxs] at cx2
              clear hwq cx cs hbq hxs
              go_wp2
              go_quiet (fail)
              generalize hwz : wq.drewN _ = wz at *
              have HZ : Hid (Below wE.heap.size wE wz) := by rw [← hwz]; exact HBz.out _
              clear hwz cx2 cs2 hbl hne1 hne2 HBz HBq HBq2
              by_cases hok : oc = k
              · omega
              · have hkk := hk
                have HZX : Hid (NkR w wz X (.slice (some ⟨og, 0, none⟩) m oc)) := HRX.out.next HZ.out
                have hownz : wz.ownsRow w.heap.size 9 1 (.slice (some ⟨og, 0, none⟩) m oc) m (X.map Value.string) := by
                  have h := NkR.own HZX.out
                  rw [← HM.out] at h
                  exact h
                have hown1 := copy_own wz
                have hs1 : wz.heap.size ≤ (wz.alloc (.cells #[] 9)).heap.size := by simp
                have hXl : (X.drop k).length = m - k := by rw [List.length_drop, ← HM.out]
                have hcl : ∀ t u, ((X.drop k).map Value.string)[t]? = some u → (wz.alloc (.cells #[] 9)).cell? ⟨og, k + t, none⟩ = some u := fun t u ht => by
                  have htl : t < m - k := by
                    have := (List.getElem?_eq_some_iff.1 ht).1
                    rw [List.length_map, hXl] at this
                    exact this
                  have hkt : k + t < X.length := by have := HM.out; omega
                  rw [HOC.out _ (HZ.out.alloc HZ.out.size _) (k + t) hkt]
                  rw [List.getElem?_map, List.getElem?_drop, List.getElem?_eq_getElem hkt] at ht
                  exact ht
                have hat : 0 < m - k → ((some ⟨og, k, none⟩) : Option Addr) = some ⟨og, k, none⟩ := fun _ => rfl
                have hnn : ((some ⟨og, k, none⟩) : Option Addr) = none → m - k = 0 ∧ oc - k = 0 := fun h => by cases h
                have hkoc : ¬ oc = k := hok
                have hkoc2 : (k : Int) ≤ (oc : Int) := by omega
                have hkoc3 : (k : Int) ≤ (m : Int) := by omega
                go_upto_region 10 with (at_builtin; refine wpList_ap_allO rfl (some 51) rfl _ _ rfl wz.heap.size (.slice (some ⟨wz.heap.size, 0, none⟩) 0 0) 0 [] rfl hown1 (some ⟨og, k, none⟩) og k (m - k) (oc - k) (X.drop k) hXl rfl hat hnn hcl hs1 (by omega) ?_; intro v6 w6 ho6 hg6)
                have hq6 : Below wz.heap.size wz w6 := ((Below.refl wz.heap.size wz).alloc (Nat.le_refl _) (.cells #[] 9)).trans (below_own hg6 hs1 (fun j hj => by simp only [Value.ownBlock, Option.some.injEq] at hj; omega))
                rw [Nat.zero_add, List.nil_append] at ho6
                have HR6 : Hid (NkR w w6 X (.slice (some ⟨og, 0, none⟩) m oc)) := HZX.out.next hq6
                have hown6 : w6.ownsRow w.heap.size 9 1 (.slice (some ⟨og, 0, none⟩) m oc) m (X.map Value.string) := own_belowS hownz hq6
                obtain ⟨ta, tg, tc, hv6, htc, hta, htn, _, htcell⟩ := slice_form ho6
                have htg : 0 < m - k → wz.heap.size ≤ tg ∧ tg < w6.heap.size := fun h => own_lt ho6 tg (by rw [hv6, hta h]; rfl)
                have hownk := own_take hown6 hk
                have HOGZ : Hid (∀ g, (Value.slice (some ⟨og, 0, none⟩) k oc).ownBlock = some g → g < wz.heap.size) := fun g hg => (own_lt (own_take hownz hk) g hg).2
                subst hv6
                have HB6 : Hid (Below w.heap.size w w6) := NkR.old HR6.out
                have hs67 : Below w6.heap.size w6 (w6.drew.alloc (.cells #[.string s] 9)) := ((Below.refl _ _).drew).alloc (Nat.le_refl _) _
                have hown7 : (w6.drew.alloc (.cells #[.string s] 9)).ownsRow w.heap.size 9 1 (.slice (some ⟨og, 0, none⟩) k oc) k ((X.map Value.string).take k) := own_belowS hownk hs67
                have hsz7 : (w6.drew.alloc (.cells #[.string s] 9)).heap.size = w6.heap.size + 1 := by simp
                have HTC : Hid (∀ j, j < m - k → (w6.drew.alloc (.cells #[.string s] 9)).cell? ⟨tg, j, none⟩ = ((X.drop k).map Value.string)[j]?) := fun j hj => (hs67.cell (p := ⟨tg, j, none⟩) (htg (by omega)).2).trans (htcell j hj)
                have hkc : (k : Int) ≤ (oc : Int) := by omega
                have hlow6 : w.heap.size ≤ w6.heap.size := HB6.out.size
                clear hown1 hcl hs1 hXl hg6 hownz
                refine wp_region_permA [(false, 0), (false, 1), (false, 2), (false, 3), (false, 4), (false, 5), (false, 6), (false, 7), (false, 10), (true, 8), (true, 9), (true, 11), (true, 12)] (fun wx => Below w.heap.size w wx) (by kernel_rfl) (by kernel_rfl) (HB6.out.drew) ?_
                refine a_value (some 52) ?_ rfl rfl (by rfl) (fun wx hw => ?_) ?_
                rotate_left
                · go_simp
                  with_reducible rfl
                simp only [Act.put, List.setIfInBounds_toArray, List.set_cons_zero, List.set_cons_succ]
                refine a_value (some 53) ?_ rfl rfl (by rfl) (fun wx hw => ?_) ?_
                rotate_left
                · go_simp
                  with_reducible rfl
                simp only [Act.put, List.setIfInBounds_toArray, List.set_cons_zero, List.set_cons_succ]
                refine a_value (some 54) (.slice (some ⟨og, 0, none⟩) k oc) rfl rfl (by rfl) (fun wx hw => ?_) ?_
                · go_simp
                simp only [Act.put, List.setIfInBounds_toArray, List.set_cons_zero, List.set_cons_succ]
                refine a_value (some 55) ?_ rfl rfl (by rfl) (fun wx hw => ?_) ?_
                rotate_left
                · go_simp
                  with_reducible rfl
                simp only [Act.put, List.setIfInBounds_toArray, List.set_cons_zero, List.set_cons_succ]
                refine a_value (some 56) ?_ rfl rfl (by rfl) (fun wx hw => ?_) ?_
                rotate_left
                · go_simp
                  with_reducible rfl
                simp only [Act.put, List.setIfInBounds_toArray, List.set_cons_zero, List.set_cons_succ]
                refine a_value (some 57) ?_ rfl rfl (by rfl) (fun wx hw => ?_) ?_
                rotate_left
                · go_simp
                  with_reducible rfl
                simp only [Act.put, List.setIfInBounds_toArray, List.set_cons_zero, List.set_cons_succ]
                refine a_value (some 58) ?_ rfl rfl (by rfl) (fun wx hw => ?_) ?_
                rotate_left
                · go_simp
                  with_reducible rfl
                simp only [Act.put, List.setIfInBounds_toArray, List.set_cons_zero, List.set_cons_succ]
                refine a_value (some 59) ?_ rfl rfl (by rfl) (fun wx hw => ?_) ?_
                rotate_left
                · have hc := HLS.out wx hw
                  go_simp
                  with_reducible rfl
                simp only [Act.put, List.setIfInBounds_toArray, List.set_cons_zero, List.set_cons_succ]
                refine a_value (some 62) ?_ rfl rfl (by rfl) (fun wx hw => ?_) ?_
                rotate_left
                · go_simp
                  with_reducible rfl
                simp only [Act.put, List.setIfInBounds_toArray, List.set_cons_zero, List.set_cons_succ]
                obtain ⟨w7, hw7⟩ : ∃ x, x = w6.drew.alloc (.cells #[.string s] 9) := ⟨_, rfl⟩
                have hS7 : Below w.heap.size w w7 := by rw [hw7]; exact (HB6.out.drew).alloc hlow6 _
                refine a_alone (some 60) (.slice (some ⟨w6.heap.size, 0, none⟩) 1 1) w7 rfl rfl (by rfl) (by rw [hw7]; go_simp) hS7 ?_
                simp only [Act.put, List.setIfInBounds_toArray, List.set_cons_zero, List.set_cons_succ]
                have hnew : ∀ j u, [Value.string s][j]? = some u → w7.cell? ⟨w6.heap.size, 0 + j, none⟩ = some u := fun j u hj => by
                  rw [hw7, Nat.zero_add]
                  have hr : Row (w6.drew.alloc (.cells #[.string s] 9)) w6.heap.size #[.string s] 9 := Row.new w6.drew _ _
                  rw [hr.cell j]
                  show ([Value.string s].toArray)[j]? = _
                  rw [List.getElem?_toArray]
                  exact hj
                rw [← hw7] at hown7 hsz7 HTC
                refine a_wp rfl (by rfl) ?_
                refine wp_append_any (some 61) rfl (.tmp 54) (.tmp 60) 38 9 (.string ⟨#[]⟩) 1 16 Tryz.underlying38 info9 rfl (by decide) rfl w.heap.size (.slice (some ⟨og, 0, none⟩) k oc) k ((X.map Value.string).take k) rfl hown7 (some ⟨w6.heap.size, 0, none⟩) w6.heap.size 0 1 1 [.string s] rfl rfl (fun _ => rfl) hnew (fun u hu => by rw [List.mem_singleton.1 hu]; rfl) (fun h => nomatch h) (by unfold maxLen; omega) (by omega) (by omega) ?_
                intro v8 w8 ho8 hg8 hd8
                have hS8 : Below w.heap.size w w8 := hS7.trans (below_own hg8 hS7.size (fun g hg => (own_lt hown7 g hg).1))
                refine ⟨hS8, ?_⟩
                have htcl : ∀ j u, ((X.drop k).map Value.string)[j]? = some u → w8.cell? ⟨tg, 0 + j, none⟩ = some u := fun j u hj => by
                  have hjl : j < m - k := by
                    have := (List.getElem?_eq_some_iff.1 hj).1
                    rw [List.length_map, List.length_drop, ← HM.out] at this
                    exact this
                  rw [Nat.zero_add]
                  refine hg8.cell (a := ⟨tg, j, none⟩) ((HTC.out j hjl).trans hj) (fun e => ?_)
                  have h1 := HOGZ.out tg e.symm
                  have := (htg (by omega)).1
                  omega
                have hlen8 : ((X.drop k).map Value.string).length = (m - k) * 1 := by rw [List.length_map, List.length_drop, ← HM.out, Nat.mul_one]
                have htn' : ta = none → m - k = 0 ∧ tc = 0 := fun h => ⟨by have := htn h; omega, htn h⟩
                simp only [Act.put, List.setIfInBounds_toArray, List.set_cons_zero, List.set_cons_succ]
                refine a_wp rfl (by rfl) ?_
                refine wp_append_any (some 63) rfl (.tmp 61) (.tmp 62) 38 9 (.string ⟨#[]⟩) 1 16 Tryz.underlying38 info9 rfl (by decide) rfl w.heap.size v8 (k + 1) ((X.map Value.string).take k ++ [.string s]) rfl ho8 ta tg 0 (m - k) tc ((X.drop k).map Value.string) hlen8 rfl hta htcl (fun u hu => by obtain ⟨z, _, rfl⟩ := List.mem_map.1 hu; rfl) htn' (by unfold maxLen; omega) (by omega) hS8.size ?_
                intro v10 w10 ho10 hg10 hd10
                have hS10 : Below w.heap.size w w10 := hS8.trans (below_own hg10 hS8.size (fun g hg => (own_lt ho8 g hg).1))
                refine ⟨hS10, ?_⟩
                have HFin : Hid (NkR w w10 (X.take k ++ s :: X.drop k) v10) := by
                  refine ⟨?_, hS10⟩
                  have h1 := ho10
                  have hl : (X.take k ++ s :: X.drop k).length = k + 1 + (m - k) := by
                    rw [List.length_append, List.length_cons, List.length_take, List.length_drop]; have := HM.out; omega
                  rw [hl, List.map_append, List.map_cons, List.map_take]
                  rw [List.append_assoc] at h1
                  exact h1
                have HFl : Hid ((X.take k ++ s :: X.drop k).length = m + 1) := by
                  show _ = _
                  rw [List.length_append, List.length_cons, List.length_take, List.length_drop]; have := HM.out; omega
                simp only [Act.put, List.setIfInBounds_toArray, List.set_cons_zero, List.set_cons_succ]
                refine a_alone (some 3) v10 w10 rfl rfl (by rfl) (by go_simp) hS10 ?_
                simp only [Act.put, List.setIfInBounds_toArray, List.set_cons_zero, List.set_cons_succ]
                refine a_done ?_
                try simp only [Exit.then]
                clear ho10 hg10 hd10 ho8 hg8 hd8 htcl hlen8 htn' hnew hown7 htcell hta htn htg hownk hown6 hq6 ho6 hs67 hS7 hS8 hS10
                go_wp2
                go_roundw
                case rel => exact ⟨i + 1, X.take k ++ s :: X.drop k, by omega, by go_num, by have := HFl.out; omega, HFin⟩
                case measure => simp [intOf]; omega
        · have hkm' : ¬ (k : Int) < (m : Int) := by omega
          have hkd : decide ((k : Int) < (m : Int)) = false := decide_eq_false hkm'
          have hkn : decide (k < m) = false := decide_eq_false hkm
          go_wp2
          go_quiet (fail)
          generalize hwq : wr.drewN _ = wq at *
          have hbq : Below wE.heap.size wE wq := by rw [← hwq]; exact HBq.out _
          have HBz : Hid (∀ q, Below wE.heap.size wE (wq.drewN q)) := fun q => hbq.trans ⟨rfl, rfl, rfl, Nat.le_refl _, fun _ _ => rfl⟩
          clear hwq hbq
          go_wp2
          go_quiet (fail)
          generalize hwz : wq.drewN _ = wz at *
          have HZ : Hid (Below wE.heap.size wE wz) := by rw [← hwz]; exact HBz.out _
          clear hwz HBz HBq HBq2
          cases oa with
          | none =>
            have hoc0 : oc = 0 := HON.out rfl
            have hm0 : m = 0 := by
              by_cases h0 : 0 < X.length
              · cases HOA.out h0
              · have := HM.out
                omega
            obtain rfl : k = 0 := by omega
            subst hoc0 hm0
            have HZX : Hid (NkR w wz X (.slice none 0 0)) := HRX.out.next HZ.out
            have hownz : wz.ownsRow w.heap.size 9 1 (.slice none 0 0) 0 (X.map Value.string) := by
              have h := NkR.own HZX.out
              rw [← HM.out] at h
              exact h
            have hown1 := copy_own wz
            have hs1 : wz.heap.size ≤ (wz.alloc (.cells #[] 9)).heap.size := by simp
            have hXl : ([] : List ByteArray).length = 0 := rfl
            have hcl : ∀ t u, (([] : List ByteArray).map Value.string)[t]? = some u → (wz.alloc (.cells #[] 9)).cell? ⟨og, 0 + t, none⟩ = some u := fun t u ht => by simp at ht
            have HDN : Hid (X.drop 0 = []) := List.drop_of_length_le (by have := HM.out; omega)
            have hat : 0 < 0 → (none : Option Addr) = some ⟨og, 0, none⟩ := fun h => absurd h (by omega)
            have hnn : (none : Option Addr) = none → 0 = 0 ∧ 0 = 0 := fun _ => by omega

            go_upto_region 10 with (at_builtin; refine wpList_ap_allO rfl (some 51) rfl _ _ rfl wz.heap.size (.slice (some ⟨wz.heap.size, 0, none⟩) 0 0) 0 [] rfl hown1 none og 0 (0) (0) ([] : List ByteArray) hXl rfl hat hnn hcl hs1 (by omega) ?_; intro v6 w6 ho6 hg6)
            have hq6 : Below wz.heap.size wz w6 := ((Below.refl wz.heap.size wz).alloc (Nat.le_refl _) (.cells #[] 9)).trans (below_own hg6 hs1 (fun j hj => by simp only [Value.ownBlock, Option.some.injEq] at hj; omega))
            rw [Nat.zero_add, List.nil_append] at ho6
            have HR6 : Hid (NkR w w6 X (.slice none 0 0)) := HZX.out.next hq6
            have hown6 : w6.ownsRow w.heap.size 9 1 (.slice none 0 0) 0 (X.map Value.string) := own_belowS hownz hq6
            obtain ⟨ta, tg, tc, hv6, htc, hta, htn, _, htcell⟩ := slice_form ho6
            have htg : 0 < 0 → wz.heap.size ≤ tg ∧ tg < w6.heap.size := fun h => own_lt ho6 tg (by rw [hv6, hta h]; rfl)
            have hownk := own_take hown6 hk
            have HOGZ : Hid (∀ g, (Value.slice none 0 0).ownBlock = some g → g < wz.heap.size) := fun g hg => (own_lt (own_take hownz hk) g hg).2
            subst hv6
            have HB6 : Hid (Below w.heap.size w w6) := NkR.old HR6.out
            have hs67 : Below w6.heap.size w6 (w6.drew.alloc (.cells #[.string s] 9)) := ((Below.refl _ _).drew).alloc (Nat.le_refl _) _
            have hown7 : (w6.drew.alloc (.cells #[.string s] 9)).ownsRow w.heap.size 9 1 (.slice none 0 0) 0 ((X.map Value.string).take 0) := own_belowS hownk hs67
            have hsz7 : (w6.drew.alloc (.cells #[.string s] 9)).heap.size = w6.heap.size + 1 := by simp
            have hkc : (0 : Int) ≤ (0 : Int) := by omega
            have hlow6 : w.heap.size ≤ w6.heap.size := HB6.out.size
            clear hown1 hcl hs1 hXl hg6 hownz
            refine wp_region_permA [(false, 0), (false, 1), (false, 2), (false, 3), (false, 4), (false, 5), (false, 6), (false, 7), (false, 10), (true, 8), (true, 9), (true, 11), (true, 12)] (fun wx => Below w.heap.size w wx) (by kernel_rfl) (by kernel_rfl) (HB6.out.drew) ?_
            refine a_value (some 52) ?_ rfl rfl (by rfl) (fun wx hw => ?_) ?_
            rotate_left
            · go_simp
              with_reducible rfl
            simp only [Act.put, List.setIfInBounds_toArray, List.set_cons_zero, List.set_cons_succ]
            refine a_value (some 53) ?_ rfl rfl (by rfl) (fun wx hw => ?_) ?_
            rotate_left
            · go_simp
              with_reducible rfl
            simp only [Act.put, List.setIfInBounds_toArray, List.set_cons_zero, List.set_cons_succ]
            refine a_value (some 54) (.slice none 0 0) rfl rfl (by rfl) (fun wx hw => ?_) ?_
            · go_simp
            simp only [Act.put, List.setIfInBounds_toArray, List.set_cons_zero, List.set_cons_succ]
            refine a_value (some 55) ?_ rfl rfl (by rfl) (fun wx hw => ?_) ?_
            rotate_left
            · go_simp
              with_reducible rfl
            simp only [Act.put, List.setIfInBounds_toArray, List.set_cons_zero, List.set_cons_succ]
            refine a_value (some 56) ?_ rfl rfl (by rfl) (fun wx hw => ?_) ?_
            rotate_left
            · go_simp
              with_reducible rfl
            simp only [Act.put, List.setIfInBounds_toArray, List.set_cons_zero, List.set_cons_succ]
            refine a_value (some 57) ?_ rfl rfl (by rfl) (fun wx hw => ?_) ?_
            rotate_left
            · go_simp
              with_reducible rfl
            simp only [Act.put, List.setIfInBounds_toArray, List.set_cons_zero, List.set_cons_succ]
            refine a_value (some 58) ?_ rfl rfl (by rfl) (fun wx hw => ?_) ?_
            rotate_left
            · go_simp
              with_reducible rfl
            simp only [Act.put, List.setIfInBounds_toArray, List.set_cons_zero, List.set_cons_succ]
            refine a_value (some 59) ?_ rfl rfl (by rfl) (fun wx hw => ?_) ?_
            rotate_left
            · have hc := HLS.out wx hw
              go_simp
              with_reducible rfl
            simp only [Act.put, List.setIfInBounds_toArray, List.set_cons_zero, List.set_cons_succ]
            refine a_value (some 62) ?_ rfl rfl (by rfl) (fun wx hw => ?_) ?_
            rotate_left
            · go_simp
              with_reducible rfl
            simp only [Act.put, List.setIfInBounds_toArray, List.set_cons_zero, List.set_cons_succ]
            obtain ⟨w7, hw7⟩ : ∃ x, x = w6.drew.alloc (.cells #[.string s] 9) := ⟨_, rfl⟩
            have hS7 : Below w.heap.size w w7 := by rw [hw7]; exact (HB6.out.drew).alloc hlow6 _
            refine a_alone (some 60) (.slice (some ⟨w6.heap.size, 0, none⟩) 1 1) w7 rfl rfl (by rfl) (by rw [hw7]; go_simp) hS7 ?_
            simp only [Act.put, List.setIfInBounds_toArray, List.set_cons_zero, List.set_cons_succ]
            have hnew : ∀ j u, [Value.string s][j]? = some u → w7.cell? ⟨w6.heap.size, 0 + j, none⟩ = some u := fun j u hj => by
              rw [hw7, Nat.zero_add]
              have hr : Row (w6.drew.alloc (.cells #[.string s] 9)) w6.heap.size #[.string s] 9 := Row.new w6.drew _ _
              rw [hr.cell j]
              show ([Value.string s].toArray)[j]? = _
              rw [List.getElem?_toArray]
              exact hj
            rw [← hw7] at hown7 hsz7
            refine a_wp rfl (by rfl) ?_
            refine wp_append_any (some 61) rfl (.tmp 54) (.tmp 60) 38 9 (.string ⟨#[]⟩) 1 16 Tryz.underlying38 info9 rfl (by decide) rfl w.heap.size (.slice none 0 0) 0 ((X.map Value.string).take 0) rfl hown7 (some ⟨w6.heap.size, 0, none⟩) w6.heap.size 0 1 1 [.string s] rfl rfl (fun _ => rfl) hnew (fun u hu => by rw [List.mem_singleton.1 hu]; rfl) (fun h => nomatch h) (by unfold maxLen; omega) (by omega) (by omega) ?_
            intro v8 w8 ho8 hg8 hd8
            have hS8 : Below w.heap.size w w8 := hS7.trans (below_own hg8 hS7.size (fun g hg => (own_lt hown7 g hg).1))
            refine ⟨hS8, ?_⟩
            have htcl : ∀ j u, (([] : List ByteArray).map Value.string)[j]? = some u → w8.cell? ⟨tg, 0 + j, none⟩ = some u := fun j u hj => by simp at hj
            have hlen8 : (([] : List ByteArray).map Value.string).length = 0 * 1 := rfl
            have htn' : ta = none → 0 = 0 ∧ tc = 0 := fun h => ⟨by have := htn h; omega, htn h⟩
            simp only [Act.put, List.setIfInBounds_toArray, List.set_cons_zero, List.set_cons_succ]
            refine a_wp rfl (by rfl) ?_
            refine wp_append_any (some 63) rfl (.tmp 61) (.tmp 62) 38 9 (.string ⟨#[]⟩) 1 16 Tryz.underlying38 info9 rfl (by decide) rfl w.heap.size v8 (0 + 1) ((X.map Value.string).take 0 ++ [.string s]) rfl ho8 ta tg 0 (0) tc (([] : List ByteArray).map Value.string) hlen8 rfl hta htcl (fun u hu => by obtain ⟨z, _, rfl⟩ := List.mem_map.1 hu; rfl) htn' (by unfold maxLen; omega) (by omega) hS8.size ?_
            intro v10 w10 ho10 hg10 hd10
            have hS10 : Below w.heap.size w w10 := hS8.trans (below_own hg10 hS8.size (fun g hg => (own_lt ho8 g hg).1))
            refine ⟨hS10, ?_⟩
            have HFin : Hid (NkR w w10 (X ++ [s]) v10) := by
              refine ⟨?_, hS10⟩
              have h1 := ho10
              have hl : (X ++ [s]).length = 0 + 1 + 0 := by rw [List.length_append, List.length_singleton]; have := HM.out; omega
              have ht : (X.map Value.string).take 0 = X.map Value.string := List.take_of_length_le (by rw [List.length_map]; have := HM.out; omega)
              rw [hl, List.map_append]
              rw [ht, List.map_nil, List.append_nil] at h1
              exact h1
            have HFl : Hid ((X ++ [s]).length = 0 + 1) := by
              show _ = _
              rw [List.length_append, List.length_singleton]; have := HM.out; omega
            simp only [Act.put, List.setIfInBounds_toArray, List.set_cons_zero, List.set_cons_succ]
            refine a_alone (some 3) v10 w10 rfl rfl (by rfl) (by go_simp) hS10 ?_
            simp only [Act.put, List.setIfInBounds_toArray, List.set_cons_zero, List.set_cons_succ]
            refine a_done ?_
            try simp only [Exit.then]
            clear ho10 hg10 hd10 ho8 hg8 hd8 htcl hlen8 htn' hnew hown7 htcell hta htn htg hownk hown6 hq6 ho6 hs67 hS7 hS8 hS10
            go_wp2
            go_roundw
            case rel => exact ⟨i + 1, X ++ [s], by omega, by go_num, by have := HFl.out; omega, HFin⟩
            case measure => simp [intOf]; omega
          | some ad =>
            obtain rfl := HOG.out ad rfl
            by_cases hok : oc = k
            · have hkm3 : m = k := by omega
              subst hok
              have HZX : Hid (NkR w wz X (.slice (some ⟨og, 0, none⟩) m oc)) := HRX.out.next HZ.out
              have hownz : wz.ownsRow w.heap.size 9 1 (.slice (some ⟨og, 0, none⟩) m oc) m (X.map Value.string) := by
                have h := NkR.own HZX.out
                rw [← HM.out] at h
                exact h
              have hown1 := copy_own wz
              have hs1 : wz.heap.size ≤ (wz.alloc (.cells #[] 9)).heap.size := by simp
              have hXl : ([] : List ByteArray).length = 0 := rfl
              have hcl : ∀ t u, (([] : List ByteArray).map Value.string)[t]? = some u → (wz.alloc (.cells #[] 9)).cell? ⟨og, oc + t, none⟩ = some u := fun t u ht => by simp at ht
              have HDN : Hid (X.drop oc = []) := List.drop_of_length_le (by have := HM.out; omega)
              have hat : 0 < 0 → ((some ⟨og, 0, none⟩) : Option Addr) = some ⟨og, oc, none⟩ := fun h => absurd h (by omega)
              have hnn : ((some ⟨og, 0, none⟩) : Option Addr) = none → 0 = 0 ∧ 0 = 0 := fun h => by cases h
              have hkm2 : m = oc := by omega
              go_upto_region 10 with (at_builtin; refine wpList_ap_allO rfl (some 51) rfl _ _ rfl wz.heap.size (.slice (some ⟨wz.heap.size, 0, none⟩) 0 0) 0 [] rfl hown1 (some ⟨og, 0, none⟩) og oc (0) (0) ([] : List ByteArray) hXl rfl hat hnn hcl hs1 (by omega) ?_; intro v6 w6 ho6 hg6)
              have hq6 : Below wz.heap.size wz w6 := ((Below.refl wz.heap.size wz).alloc (Nat.le_refl _) (.cells #[] 9)).trans (below_own hg6 hs1 (fun j hj => by simp only [Value.ownBlock, Option.some.injEq] at hj; omega))
              rw [Nat.zero_add, List.nil_append] at ho6
              have HR6 : Hid (NkR w w6 X (.slice (some ⟨og, 0, none⟩) m oc)) := HZX.out.next hq6
              have hown6 : w6.ownsRow w.heap.size 9 1 (.slice (some ⟨og, 0, none⟩) m oc) m (X.map Value.string) := own_belowS hownz hq6
              obtain ⟨ta, tg, tc, hv6, htc, hta, htn, _, htcell⟩ := slice_form ho6
              have htg : 0 < 0 → wz.heap.size ≤ tg ∧ tg < w6.heap.size := fun h => own_lt ho6 tg (by rw [hv6, hta h]; rfl)
              have hownk := own_take hown6 hk
              have HOGZ : Hid (∀ g, (Value.slice (some ⟨og, 0, none⟩) oc oc).ownBlock = some g → g < wz.heap.size) := fun g hg => (own_lt (own_take hownz hk) g hg).2
              subst hv6
              have HB6 : Hid (Below w.heap.size w w6) := NkR.old HR6.out
              have hs67 : Below w6.heap.size w6 (w6.drew.alloc (.cells #[.string s] 9)) := ((Below.refl _ _).drew).alloc (Nat.le_refl _) _
              have hown7 : (w6.drew.alloc (.cells #[.string s] 9)).ownsRow w.heap.size 9 1 (.slice (some ⟨og, 0, none⟩) oc oc) oc ((X.map Value.string).take oc) := own_belowS hownk hs67
              have hsz7 : (w6.drew.alloc (.cells #[.string s] 9)).heap.size = w6.heap.size + 1 := by simp
              have hkc : (oc : Int) ≤ (oc : Int) := by omega
              have hlow6 : w.heap.size ≤ w6.heap.size := HB6.out.size
              clear hown1 hcl hs1 hXl hg6 hownz
              refine wp_region_permA [(false, 0), (false, 1), (false, 2), (false, 3), (false, 4), (false, 5), (false, 6), (false, 7), (false, 10), (true, 8), (true, 9), (true, 11), (true, 12)] (fun wx => Below w.heap.size w wx) (by kernel_rfl) (by kernel_rfl) (HB6.out.drew) ?_
              refine a_value (some 52) ?_ rfl rfl (by rfl) (fun wx hw => ?_) ?_
              rotate_left
              · go_simp
                with_reducible rfl
              simp only [Act.put, List.setIfInBounds_toArray, List.set_cons_zero, List.set_cons_succ]
              refine a_value (some 53) ?_ rfl rfl (by rfl) (fun wx hw => ?_) ?_
              rotate_left
              · go_simp
                with_reducible rfl
              simp only [Act.put, List.setIfInBounds_toArray, List.set_cons_zero, List.set_cons_succ]
              refine a_value (some 54) (.slice (some ⟨og, 0, none⟩) oc oc) rfl rfl (by rfl) (fun wx hw => ?_) ?_
              · go_simp
              simp only [Act.put, List.setIfInBounds_toArray, List.set_cons_zero, List.set_cons_succ]
              refine a_value (some 55) ?_ rfl rfl (by rfl) (fun wx hw => ?_) ?_
              rotate_left
              · go_simp
                with_reducible rfl
              simp only [Act.put, List.setIfInBounds_toArray, List.set_cons_zero, List.set_cons_succ]
              refine a_value (some 56) ?_ rfl rfl (by rfl) (fun wx hw => ?_) ?_
              rotate_left
              · go_simp
                with_reducible rfl
              simp only [Act.put, List.setIfInBounds_toArray, List.set_cons_zero, List.set_cons_succ]
              refine a_value (some 57) ?_ rfl rfl (by rfl) (fun wx hw => ?_) ?_
              rotate_left
              · go_simp
                with_reducible rfl
              simp only [Act.put, List.setIfInBounds_toArray, List.set_cons_zero, List.set_cons_succ]
              refine a_value (some 58) ?_ rfl rfl (by rfl) (fun wx hw => ?_) ?_
              rotate_left
              · go_simp
                with_reducible rfl
              simp only [Act.put, List.setIfInBounds_toArray, List.set_cons_zero, List.set_cons_succ]
              refine a_value (some 59) ?_ rfl rfl (by rfl) (fun wx hw => ?_) ?_
              rotate_left
              · have hc := HLS.out wx hw
                go_simp
                with_reducible rfl
              simp only [Act.put, List.setIfInBounds_toArray, List.set_cons_zero, List.set_cons_succ]
              refine a_value (some 62) ?_ rfl rfl (by rfl) (fun wx hw => ?_) ?_
              rotate_left
              · go_simp
                with_reducible rfl
              simp only [Act.put, List.setIfInBounds_toArray, List.set_cons_zero, List.set_cons_succ]
              obtain ⟨w7, hw7⟩ : ∃ x, x = w6.drew.alloc (.cells #[.string s] 9) := ⟨_, rfl⟩
              have hS7 : Below w.heap.size w w7 := by rw [hw7]; exact (HB6.out.drew).alloc hlow6 _
              refine a_alone (some 60) (.slice (some ⟨w6.heap.size, 0, none⟩) 1 1) w7 rfl rfl (by rfl) (by rw [hw7]; go_simp) hS7 ?_
              simp only [Act.put, List.setIfInBounds_toArray, List.set_cons_zero, List.set_cons_succ]
              have hnew : ∀ j u, [Value.string s][j]? = some u → w7.cell? ⟨w6.heap.size, 0 + j, none⟩ = some u := fun j u hj => by
                rw [hw7, Nat.zero_add]
                have hr : Row (w6.drew.alloc (.cells #[.string s] 9)) w6.heap.size #[.string s] 9 := Row.new w6.drew _ _
                rw [hr.cell j]
                show ([Value.string s].toArray)[j]? = _
                rw [List.getElem?_toArray]
                exact hj
              rw [← hw7] at hown7 hsz7
              refine a_wp rfl (by rfl) ?_
              refine wp_append_any (some 61) rfl (.tmp 54) (.tmp 60) 38 9 (.string ⟨#[]⟩) 1 16 Tryz.underlying38 info9 rfl (by decide) rfl w.heap.size (.slice (some ⟨og, 0, none⟩) oc oc) oc ((X.map Value.string).take oc) rfl hown7 (some ⟨w6.heap.size, 0, none⟩) w6.heap.size 0 1 1 [.string s] rfl rfl (fun _ => rfl) hnew (fun u hu => by rw [List.mem_singleton.1 hu]; rfl) (fun h => nomatch h) (by unfold maxLen; omega) (by omega) (by omega) ?_
              intro v8 w8 ho8 hg8 hd8
              have hS8 : Below w.heap.size w w8 := hS7.trans (below_own hg8 hS7.size (fun g hg => (own_lt hown7 g hg).1))
              refine ⟨hS8, ?_⟩
              have htcl : ∀ j u, (([] : List ByteArray).map Value.string)[j]? = some u → w8.cell? ⟨tg, 0 + j, none⟩ = some u := fun j u hj => by simp at hj
              have hlen8 : (([] : List ByteArray).map Value.string).length = 0 * 1 := rfl
              have htn' : ta = none → 0 = 0 ∧ tc = 0 := fun h => ⟨by have := htn h; omega, htn h⟩
              simp only [Act.put, List.setIfInBounds_toArray, List.set_cons_zero, List.set_cons_succ]
              refine a_wp rfl (by rfl) ?_
              refine wp_append_any (some 63) rfl (.tmp 61) (.tmp 62) 38 9 (.string ⟨#[]⟩) 1 16 Tryz.underlying38 info9 rfl (by decide) rfl w.heap.size v8 (oc + 1) ((X.map Value.string).take oc ++ [.string s]) rfl ho8 ta tg 0 (0) tc (([] : List ByteArray).map Value.string) hlen8 rfl hta htcl (fun u hu => by obtain ⟨z, _, rfl⟩ := List.mem_map.1 hu; rfl) htn' (by unfold maxLen; omega) (by omega) hS8.size ?_
              intro v10 w10 ho10 hg10 hd10
              have hS10 : Below w.heap.size w w10 := hS8.trans (below_own hg10 hS8.size (fun g hg => (own_lt ho8 g hg).1))
              refine ⟨hS10, ?_⟩
              have HFin : Hid (NkR w w10 (X ++ [s]) v10) := by
                refine ⟨?_, hS10⟩
                have h1 := ho10
                have hl : (X ++ [s]).length = oc + 1 + 0 := by rw [List.length_append, List.length_singleton]; have := HM.out; omega
                have ht : (X.map Value.string).take oc = X.map Value.string := List.take_of_length_le (by rw [List.length_map]; have := HM.out; omega)
                rw [hl, List.map_append]
                rw [ht, List.map_nil, List.append_nil] at h1
                exact h1
              have HFl : Hid ((X ++ [s]).length = m + 1) := by
                show _ = _
                rw [List.length_append, List.length_singleton]; have := HM.out; omega
              simp only [Act.put, List.setIfInBounds_toArray, List.set_cons_zero, List.set_cons_succ]
              refine a_alone (some 3) v10 w10 rfl rfl (by rfl) (by go_simp) hS10 ?_
              simp only [Act.put, List.setIfInBounds_toArray, List.set_cons_zero, List.set_cons_succ]
              refine a_done ?_
              try simp only [Exit.then]
              clear ho10 hg10 hd10 ho8 hg8 hd8 htcl hlen8 htn' hnew hown7 htcell hta htn htg hownk hown6 hq6 ho6 hs67 hS7 hS8 hS10
              go_wp2
              go_roundw
              case rel => exact ⟨i + 1, X ++ [s], by omega, by go_num, by have := HFl.out; omega, HFin⟩
              case measure => simp [intOf]; omega
            · have hkk := hk
              have HZX : Hid (NkR w wz X (.slice (some ⟨og, 0, none⟩) m oc)) := HRX.out.next HZ.out
              have hownz : wz.ownsRow w.heap.size 9 1 (.slice (some ⟨og, 0, none⟩) m oc) m (X.map Value.string) := by
                have h := NkR.own HZX.out
                rw [← HM.out] at h
                exact h
              have hown1 := copy_own wz
              have hs1 : wz.heap.size ≤ (wz.alloc (.cells #[] 9)).heap.size := by simp
              have hXl : (X.drop k).length = m - k := by rw [List.length_drop, ← HM.out]
              have hcl : ∀ t u, ((X.drop k).map Value.string)[t]? = some u → (wz.alloc (.cells #[] 9)).cell? ⟨og, k + t, none⟩ = some u := fun t u ht => by
                have htl : t < m - k := by
                  have := (List.getElem?_eq_some_iff.1 ht).1
                  rw [List.length_map, hXl] at this
                  exact this
                have hkt : k + t < X.length := by have := HM.out; omega
                rw [HOC.out _ (HZ.out.alloc HZ.out.size _) (k + t) hkt]
                rw [List.getElem?_map, List.getElem?_drop, List.getElem?_eq_getElem hkt] at ht
                exact ht
              have hat : 0 < m - k → ((some ⟨og, k, none⟩) : Option Addr) = some ⟨og, k, none⟩ := fun _ => rfl
              have hnn : ((some ⟨og, k, none⟩) : Option Addr) = none → m - k = 0 ∧ oc - k = 0 := fun h => by cases h
              have hkoc : ¬ oc = k := hok
              have hkoc2 : (k : Int) ≤ (oc : Int) := by omega
              have hkoc3 : (k : Int) ≤ (m : Int) := by omega
              go_upto_region 10 with (at_builtin; refine wpList_ap_allO rfl (some 51) rfl _ _ rfl wz.heap.size (.slice (some ⟨wz.heap.size, 0, none⟩) 0 0) 0 [] rfl hown1 (some ⟨og, k, none⟩) og k (m - k) (oc - k) (X.drop k) hXl rfl hat hnn hcl hs1 (by omega) ?_; intro v6 w6 ho6 hg6)
              have hq6 : Below wz.heap.size wz w6 := ((Below.refl wz.heap.size wz).alloc (Nat.le_refl _) (.cells #[] 9)).trans (below_own hg6 hs1 (fun j hj => by simp only [Value.ownBlock, Option.some.injEq] at hj; omega))
              rw [Nat.zero_add, List.nil_append] at ho6
              have HR6 : Hid (NkR w w6 X (.slice (some ⟨og, 0, none⟩) m oc)) := HZX.out.next hq6
              have hown6 : w6.ownsRow w.heap.size 9 1 (.slice (some ⟨og, 0, none⟩) m oc) m (X.map Value.string) := own_belowS hownz hq6
              obtain ⟨ta, tg, tc, hv6, htc, hta, htn, _, htcell⟩ := slice_form ho6
              have htg : 0 < m - k → wz.heap.size ≤ tg ∧ tg < w6.heap.size := fun h => own_lt ho6 tg (by rw [hv6, hta h]; rfl)
              have hownk := own_take hown6 hk
              have HOGZ : Hid (∀ g, (Value.slice (some ⟨og, 0, none⟩) k oc).ownBlock = some g → g < wz.heap.size) := fun g hg => (own_lt (own_take hownz hk) g hg).2
              subst hv6
              have HB6 : Hid (Below w.heap.size w w6) := NkR.old HR6.out
              have hs67 : Below w6.heap.size w6 (w6.drew.alloc (.cells #[.string s] 9)) := ((Below.refl _ _).drew).alloc (Nat.le_refl _) _
              have hown7 : (w6.drew.alloc (.cells #[.string s] 9)).ownsRow w.heap.size 9 1 (.slice (some ⟨og, 0, none⟩) k oc) k ((X.map Value.string).take k) := own_belowS hownk hs67
              have hsz7 : (w6.drew.alloc (.cells #[.string s] 9)).heap.size = w6.heap.size + 1 := by simp
              have HTC : Hid (∀ j, j < m - k → (w6.drew.alloc (.cells #[.string s] 9)).cell? ⟨tg, j, none⟩ = ((X.drop k).map Value.string)[j]?) := fun j hj => (hs67.cell (p := ⟨tg, j, none⟩) (htg (by omega)).2).trans (htcell j hj)
              have hkc : (k : Int) ≤ (oc : Int) := by omega
              have hlow6 : w.heap.size ≤ w6.heap.size := HB6.out.size
              clear hown1 hcl hs1 hXl hg6 hownz
              refine wp_region_permA [(false, 0), (false, 1), (false, 2), (false, 3), (false, 4), (false, 5), (false, 6), (false, 7), (false, 10), (true, 8), (true, 9), (true, 11), (true, 12)] (fun wx => Below w.heap.size w wx) (by kernel_rfl) (by kernel_rfl) (HB6.out.drew) ?_
              refine a_value (some 52) ?_ rfl rfl (by rfl) (fun wx hw => ?_) ?_
              rotate_left
              · go_simp
                with_reducible rfl
              simp only [Act.put, List.setIfInBounds_toArray, List.set_cons_zero, List.set_cons_succ]
              refine a_value (some 53) ?_ rfl rfl (by rfl) (fun wx hw => ?_) ?_
              rotate_left
              · go_simp
                with_reducible rfl
              simp only [Act.put, List.setIfInBounds_toArray, List.set_cons_zero, List.set_cons_succ]
              refine a_value (some 54) (.slice (some ⟨og, 0, none⟩) k oc) rfl rfl (by rfl) (fun wx hw => ?_) ?_
              · go_simp
              simp only [Act.put, List.setIfInBounds_toArray, List.set_cons_zero, List.set_cons_succ]
              refine a_value (some 55) ?_ rfl rfl (by rfl) (fun wx hw => ?_) ?_
              rotate_left
              · go_simp
                with_reducible rfl
              simp only [Act.put, List.setIfInBounds_toArray, List.set_cons_zero, List.set_cons_succ]
              refine a_value (some 56) ?_ rfl rfl (by rfl) (fun wx hw => ?_) ?_
              rotate_left
              · go_simp
                with_reducible rfl
              simp only [Act.put, List.setIfInBounds_toArray, List.set_cons_zero, List.set_cons_succ]
              refine a_value (some 57) ?_ rfl rfl (by rfl) (fun wx hw => ?_) ?_
              rotate_left
              · go_simp
                with_reducible rfl
              simp only [Act.put, List.setIfInBounds_toArray, List.set_cons_zero, List.set_cons_succ]
              refine a_value (some 58) ?_ rfl rfl (by rfl) (fun wx hw => ?_) ?_
              rotate_left
              · go_simp
                with_reducible rfl
              simp only [Act.put, List.setIfInBounds_toArray, List.set_cons_zero, List.set_cons_succ]
              refine a_value (some 59) ?_ rfl rfl (by rfl) (fun wx hw => ?_) ?_
              rotate_left
              · have hc := HLS.out wx hw
                go_simp
                with_reducible rfl
              simp only [Act.put, List.setIfInBounds_toArray, List.set_cons_zero, List.set_cons_succ]
              refine a_value (some 62) ?_ rfl rfl (by rfl) (fun wx hw => ?_) ?_
              rotate_left
              · go_simp
                with_reducible rfl
              simp only [Act.put, List.setIfInBounds_toArray, List.set_cons_zero, List.set_cons_succ]
              obtain ⟨w7, hw7⟩ : ∃ x, x = w6.drew.alloc (.cells #[.string s] 9) := ⟨_, rfl⟩
              have hS7 : Below w.heap.size w w7 := by rw [hw7]; exact (HB6.out.drew).alloc hlow6 _
              refine a_alone (some 60) (.slice (some ⟨w6.heap.size, 0, none⟩) 1 1) w7 rfl rfl (by rfl) (by rw [hw7]; go_simp) hS7 ?_
              simp only [Act.put, List.setIfInBounds_toArray, List.set_cons_zero, List.set_cons_succ]
              have hnew : ∀ j u, [Value.string s][j]? = some u → w7.cell? ⟨w6.heap.size, 0 + j, none⟩ = some u := fun j u hj => by
                rw [hw7, Nat.zero_add]
                have hr : Row (w6.drew.alloc (.cells #[.string s] 9)) w6.heap.size #[.string s] 9 := Row.new w6.drew _ _
                rw [hr.cell j]
                show ([Value.string s].toArray)[j]? = _
                rw [List.getElem?_toArray]
                exact hj
              rw [← hw7] at hown7 hsz7 HTC
              refine a_wp rfl (by rfl) ?_
              refine wp_append_any (some 61) rfl (.tmp 54) (.tmp 60) 38 9 (.string ⟨#[]⟩) 1 16 Tryz.underlying38 info9 rfl (by decide) rfl w.heap.size (.slice (some ⟨og, 0, none⟩) k oc) k ((X.map Value.string).take k) rfl hown7 (some ⟨w6.heap.size, 0, none⟩) w6.heap.size 0 1 1 [.string s] rfl rfl (fun _ => rfl) hnew (fun u hu => by rw [List.mem_singleton.1 hu]; rfl) (fun h => nomatch h) (by unfold maxLen; omega) (by omega) (by omega) ?_
              intro v8 w8 ho8 hg8 hd8
              have hS8 : Below w.heap.size w w8 := hS7.trans (below_own hg8 hS7.size (fun g hg => (own_lt hown7 g hg).1))
              refine ⟨hS8, ?_⟩
              have htcl : ∀ j u, ((X.drop k).map Value.string)[j]? = some u → w8.cell? ⟨tg, 0 + j, none⟩ = some u := fun j u hj => by
                have hjl : j < m - k := by
                  have := (List.getElem?_eq_some_iff.1 hj).1
                  rw [List.length_map, List.length_drop, ← HM.out] at this
                  exact this
                rw [Nat.zero_add]
                refine hg8.cell (a := ⟨tg, j, none⟩) ((HTC.out j hjl).trans hj) (fun e => ?_)
                have h1 := HOGZ.out tg e.symm
                have := (htg (by omega)).1
                omega
              have hlen8 : ((X.drop k).map Value.string).length = (m - k) * 1 := by rw [List.length_map, List.length_drop, ← HM.out, Nat.mul_one]
              have htn' : ta = none → m - k = 0 ∧ tc = 0 := fun h => ⟨by have := htn h; omega, htn h⟩
              simp only [Act.put, List.setIfInBounds_toArray, List.set_cons_zero, List.set_cons_succ]
              refine a_wp rfl (by rfl) ?_
              refine wp_append_any (some 63) rfl (.tmp 61) (.tmp 62) 38 9 (.string ⟨#[]⟩) 1 16 Tryz.underlying38 info9 rfl (by decide) rfl w.heap.size v8 (k + 1) ((X.map Value.string).take k ++ [.string s]) rfl ho8 ta tg 0 (m - k) tc ((X.drop k).map Value.string) hlen8 rfl hta htcl (fun u hu => by obtain ⟨z, _, rfl⟩ := List.mem_map.1 hu; rfl) htn' (by unfold maxLen; omega) (by omega) hS8.size ?_
              intro v10 w10 ho10 hg10 hd10
              have hS10 : Below w.heap.size w w10 := hS8.trans (below_own hg10 hS8.size (fun g hg => (own_lt ho8 g hg).1))
              refine ⟨hS10, ?_⟩
              have HFin : Hid (NkR w w10 (X.take k ++ s :: X.drop k) v10) := by
                refine ⟨?_, hS10⟩
                have h1 := ho10
                have hl : (X.take k ++ s :: X.drop k).length = k + 1 + (m - k) := by
                  rw [List.length_append, List.length_cons, List.length_take, List.length_drop]; have := HM.out; omega
                rw [hl, List.map_append, List.map_cons, List.map_take]
                rw [List.append_assoc] at h1
                exact h1
              have HFl : Hid ((X.take k ++ s :: X.drop k).length = m + 1) := by
                show _ = _
                rw [List.length_append, List.length_cons, List.length_take, List.length_drop]; have := HM.out; omega
              simp only [Act.put, List.setIfInBounds_toArray, List.set_cons_zero, List.set_cons_succ]
              refine a_alone (some 3) v10 w10 rfl rfl (by rfl) (by go_simp) hS10 ?_
              simp only [Act.put, List.setIfInBounds_toArray, List.set_cons_zero, List.set_cons_succ]
              refine a_done ?_
              try simp only [Exit.then]
              clear ho10 hg10 hd10 ho8 hg8 hd8 htcl hlen8 htn' hnew hown7 htcell hta htn htg hownk hown6 hq6 ho6 hs67 hS7 hS8 hS10
              go_wp2
              go_roundw
              case rel => exact ⟨i + 1, X.take k ++ s :: X.drop k, by omega, by go_num, by have := HFl.out; omega, HFin⟩
              case measure => simp [intOf]; omega
    · have hlt' : ¬ (i : Int) < (n : Int) := by omega
      have HF := HRP.out X u3 wr (by have := HN.out; omega) HRX.out
      have HFF : Hid (RP (.returned u3) wr) := HF
      clear HF
      go_wp2
      exact HFF.out
end Go.Proofs.YtkbhckjpmgkgjaaGreatDoor
namespace Go.Proofs.YtkbhckjpmgkgjaaGreatDoor
open Go.RowKit
open Go.ChangeMaps (setBlock)

section
variable {κ : Type}
/-- Block m is a map with these entries. -/
structure MpAt (ke : κ → Value) (w : World) (m : Nat) (E : List (κ × Value)) : Prop where
  ex : ∃ es clk, w.heap[m]? = some (.map es clk) ∧ es.toList.map (fun e => (e.key, e.val)) = E.map (fun y => (ke y.1, y.2))
theorem MpAt.lt {ke : κ → Value} {w : World} {m : Nat} {E : List (κ × Value)} (h : MpAt ke w m E) : m < w.heap.size := by
  obtain ⟨es, clk, h0, _⟩ := h.ex
  exact (Array.getElem?_eq_some_iff.1 h0).1
theorem MpAt.keep {ke : κ → Value} {w w' : World} {m : Nat} {E : List (κ × Value)} (h : MpAt ke w m E) (hb : w'.heap[m]? = w.heap[m]?) : MpAt ke w' m E := by
  obtain ⟨es, clk, h0, h1⟩ := h.ex
  exact ⟨es, clk, hb.trans h0, h1⟩
theorem MpAt.next {ke : κ → Value} {w w' : World} {m : Nat} {E : List (κ × Value)} (h : MpAt ke w m E) (hb : Below w.heap.size w w') : MpAt ke w' m E := h.keep (hb.block m h.lt)
theorem mp_new (ke : κ → Value) (w : World) : MpAt ke (w.alloc (.map #[] 0)) w.heap.size [] := ⟨#[], 0, heap_alloc_new w _, rfl⟩
end
section
variable {κ : Type} [DecidableEq κ]
/-- The first entry with a key: its place and its value. -/
def findE (x : κ) : List (κ × Value) → Nat → Option (Nat × Value)
  | [], _ => none
  | (y, v) :: r, i => if x = y then some (i, v) else findE x r (i + 1)
theorem findE_none {x : κ} : ∀ {E : List (κ × Value)} {i : Nat}, findE x E i = none ↔ x ∉ E.map (·.1)
  | [], _ => ⟨fun _ h => (nomatch h), fun _ => rfl⟩
  | (y, v) :: r, i => by
    by_cases h : x = y
    · simp [findE, h]
    · have := findE_none (x := x) (E := r) (i := i + 1)
      simp only [findE, if_neg h, this, List.map_cons, List.mem_cons, not_or]
      exact ⟨fun k => ⟨h, k⟩, fun k => k.2⟩
theorem findE_some {x : κ} : ∀ {E : List (κ × Value)} {i j : Nat} {v : Value}, findE x E i = some (j, v) → ∃ k, j = i + k ∧ E[k]? = some (x, v) ∧ ∀ t, t < k → ∀ y, E[t]? = some y → y.1 ≠ x
  | [], _, _, _, h => by cases h
  | (y, u) :: r, i, j, v, h => by
    by_cases hx : x = y
    · subst hx
      simp only [findE, if_true] at h
      cases h
      exact ⟨0, rfl, rfl, fun t ht => absurd ht (by omega)⟩
    · simp only [findE, if_neg hx] at h
      obtain ⟨k, h1, h2, h3⟩ := findE_some h
      refine ⟨k + 1, by omega, by simpa using h2, fun t ht z hz => ?_⟩
      cases t with
      | zero => simp at hz; rw [← hz]; exact fun e => hx e.symm
      | succ t => exact h3 t (by omega) z (by simpa using hz)
/-- How keys of a kind are told, found and checked. -/
structure KeyOf (kt : TypeId) (ke : κ → Value) : Prop where
  find : ∀ (x : κ) (w : World) (es : List MapEntry) (E : List (κ × Value)), es.map (fun e => (e.key, e.val)) = E.map (fun y => (ke y.1, y.2)) → (Instr.findKey kt (ke x) es).run Tryz.prog w = .ok (findE x E 0) w
  check : ∀ (x : κ) (b : Bool) (w : World), (Instr.checkKey b 10000 kt (ke x)).run Tryz.prog w = .ok () w
  stay : ∀ (x : κ) (w : World), (Instr.keyThatStays (ke x) (ke x)).run Tryz.prog w = .ok (ke x) w
variable {mty kt et : TypeId} {ke : κ → Value}
theorem lookup_mp (hm : Tryz.prog.underlying mty = some (.map kt et)) (hk : KeyOf kt ke) (z : Value) (hz : ∀ w, (zeroValue et).run Tryz.prog w = .ok z w) {w : World} {m : Nat} {E : List (κ × Value)} (h : MpAt ke w m E) (x : κ) (ok : Bool) :
    (Instr.lookup mty (.map (some m)) (ke x) ok).run Tryz.prog w = .ok (match findE x E 0 with | none => if ok then .tuple #[z, .bool false] else z | some (_, v) => if ok then .tuple #[v, .bool true] else v) w := by
  obtain ⟨es, clk, h0, h1⟩ := h.ex
  have hu := run_underlying (P := Tryz.prog) hm
  have hc := hk.check x es.isEmpty w
  have hf := hk.find x w es.toList E h1
  cases hF : findE x E 0 with
  | none =>
    rw [hF] at hf
    simp [Instr.lookup, hu, MapKept.run_getObj_map h0, hc, hf, hz, Result.andThen]
  | some p =>
    obtain ⟨j, v⟩ := p
    rw [hF] at hf
    simp [Instr.lookup, hu, MapKept.run_getObj_map h0, hc, hf, Result.andThen]
theorem put_mp (hm : Tryz.prog.underlying mty = some (.map kt et)) (hk : KeyOf kt ke) {w : World} {m : Nat} {E : List (κ × Value)} (h : MpAt ke w m E) {x : κ} (hx : x ∉ E.map (·.1)) (v : Value) :
    ∃ o, (Instr.mapUpdate mty (.map (some m)) (ke x) v).run Tryz.prog w = .ok () (setBlock w m o) ∧ MpAt ke (setBlock w m o) m (E ++ [(x, v)]) := by
  obtain ⟨es, clk, h0, h1⟩ := h.ex
  have hu := run_underlying (P := Tryz.prog) hm
  have hc := hk.check x false w
  have hlt := h.lt
  have hf := hk.find x w es.toList E h1
  rw [findE_none.2 hx] at hf
  have hset : ∀ o, (setObj m o).run Tryz.prog w = .ok () (setBlock w m o) := fun o => by simp [setObj, Sem.run, h0, setBlock]
  refine ⟨.map (es.push { key := ke x, val := v, born := clk }) (clk + 1), ?_, ⟨es.push { key := ke x, val := v, born := clk }, clk + 1, setBlock_same hlt, ?_⟩⟩
  · simp [Instr.mapUpdate, hu, MapKept.run_getObj_map h0, hc, hf, hset, Result.andThen]
  · simp [h1]
theorem set_mp (hm : Tryz.prog.underlying mty = some (.map kt et)) (hk : KeyOf kt ke) {w : World} {m : Nat} {E : List (κ × Value)} (h : MpAt ke w m E) {x : κ} {j : Nat} {u : Value} (hx : findE x E 0 = some (j, u)) (v : Value) :
    ∃ o, (Instr.mapUpdate mty (.map (some m)) (ke x) v).run Tryz.prog w = .ok () (setBlock w m o) ∧ MpAt ke (setBlock w m o) m (E.set j (x, v)) := by
  obtain ⟨es, clk, h0, h1⟩ := h.ex
  have hu := run_underlying (P := Tryz.prog) hm
  have hc := hk.check x false w
  have hlt := h.lt
  have hf := hk.find x w es.toList E h1
  rw [hx] at hf
  have hset : ∀ o, (setObj m o).run Tryz.prog w = .ok () (setBlock w m o) := fun o => by simp [setObj, Sem.run, h0, setBlock]
  obtain ⟨k, hjk, hE, _⟩ := findE_some hx
  rw [Nat.zero_add] at hjk
  subst hjk
  have hes : (es[j]?).map (·.key) = some (ke x) := by
    have h2 := congrArg (fun l => l[j]?) h1
    simp only [List.getElem?_map, hE, Option.map_some] at h2
    cases he : es[j]? with
    | none => rw [Array.getElem?_toList, he] at h2; cases h2
    | some e =>
      rw [Array.getElem?_toList, he] at h2
      simp only [Option.map_some, Option.some.injEq, Prod.mk.injEq] at h2 ⊢
      exact h2.1
  have hst := hk.stay x w
  refine ⟨.map (es.modify j fun e => { e with key := ke x, val := v }) clk, ?_, ⟨es.modify j fun e => { e with key := ke x, val := v }, clk, setBlock_same hlt, ?_⟩⟩
  · simp [Instr.mapUpdate, hu, MapKept.run_getObj_map h0, hc, hf, hes, hst, hset, Result.andThen]
  · apply List.ext_getElem?
    intro t
    rw [List.getElem?_map, List.getElem?_map, Array.getElem?_toList, Array.getElem?_modify, List.getElem?_set]
    have h2 := congrArg (fun l => l[t]?) h1
    simp only [List.getElem?_map, Array.getElem?_toList] at h2
    by_cases ht : j = t
    · subst ht
      have hjl : j < E.length := (List.getElem?_eq_some_iff.1 hE).1
      rw [if_pos rfl, if_pos rfl, if_pos hjl]
      cases he : es[j]? with
      | none => rw [he] at hes; cases hes
      | some e => rfl
    · rw [if_neg ht, if_neg ht]
      exact h2
omit [DecidableEq κ] in
theorem len_mp (hm : Tryz.prog.underlying mty = some (.map kt et)) (ty : TypeId) {w : World} {m : Nat} {E : List (κ × Value)} (h : MpAt ke w m E) : (Builtin.len_ #[mty] ty #[.map (some m)]).run Tryz.prog w = .ok (.int .i64 (E.length : Int)) w := by
  obtain ⟨es, clk, h0, h1⟩ := h.ex
  have hl : es.size = E.length := by have := congrArg List.length h1; simpa using this
  simp [Builtin.len_, run_underlying hm, MapKept.run_getObj_map h0, Result.andThen, hl, goInt]
end
abbrev keS (s : ByteArray) : Value := .string s
theorem ba_beq (a b : ByteArray) : (a == b) = decide (a = b) := by
  show (a.data == b.data) = _
  by_cases h : a = b
  · subst h; simp
  · have : ¬ a.data = b.data := fun e => h (ByteArray.ext e)
    simp [h, this]
theorem findNow_str (x : ByteArray) : ∀ (es : List MapEntry) (E : List (ByteArray × Value)) (i : Nat), es.map (fun e => (e.key, e.val)) = E.map (fun y => (keS y.1, y.2)) → Instr.findNow .string (.string x) es i = some (findE x E i)
  | [], E, i, h => by
    have : E = [] := by cases E with | nil => rfl | cons a b => cases h
    subst this
    rfl
  | e :: es, E, i, h => by
    cases E with
    | nil => cases h
    | cons y E =>
      simp only [List.map_cons, List.cons.injEq, Prod.mk.injEq] at h
      have ih := findNow_str x es E (i + 1) h.2
      unfold Instr.findNow
      rw [h.1.1]
      simp only [Instr.sameNow]
      rw [ba_beq]
      by_cases hxy : x = y.1
      · simp [findE, hxy, h.1.2]
      · simp [findE, hxy, ih]
theorem keyS : KeyOf 9 keS where
  find x w es E h := MapKept.run_findKey Tryz.underlying9 (findNow_str x es E 0 h)
  check x b w := MapKept.run_checkKey (k := .string x) Tryz.underlying9 (by simp [MapKept.IsKey]) b 9999
  stay x w := MapKept.run_keyThatStays (d := .string) (k := .string x) trivial
/-- A pick as a key. -/
theorem fields_pick : Tryz.prog.fieldsOf 82 = #[{ name := "Name", type := 9, offset := 0, embedded := false, tag := "", pkgPath := "", byteOffset := 0 }, { name := "Version", type := 9, offset := 1, embedded := false, tag := "", pkgPath := "", byteOffset := 16 }] := by kernel_rfl
theorem equal_pick (x y : Rl) (w : World) : (Op.equal 82 (rkey x) (rkey y)).run Tryz.prog w = .ok (decide (x = y)) w := by
  obtain ⟨a, b⟩ := x
  obtain ⟨c, d⟩ := y
  have h := run_equalIn_struct (P := Tryz.prog) w 9999 82 #[.string a, .string b] #[.string c, .string d] (by rw [fields_pick]; exact Tryz.underlying82) (by kernel_rfl)
  refine (show (Op.equal 82 (rkey (a, b)) (rkey (c, d))).run Tryz.prog w = _ from h).trans ?_
  rw [fields_pick]
  have p1 := part_str (.string a) (.string b) w
  have p2 := part_str (.string c) (.string d) w
  have q1 := run_equalIn_string (P := Tryz.prog) w 9998 9 a c Tryz.underlying9
  have q2 := run_equalIn_string (P := Tryz.prog) w 9998 9 b d Tryz.underlying9
  simp only [Op.eqFields, Sem.run_bind, Sem.run_ite, p1.1, p1.2, p2.1, p2.2, q1, q2, Result.andThen_ok, Sem.run_pure]
  by_cases h1 : a = c
  · subst h1
    by_cases h2 : b = d
    · subst h2
      simp
    · have : ¬ b.toList = d.toList := fun e => h2 (list_eq.1 e)
      simp [h2, this]
  · have : ¬ a.toList = c.toList := fun e => h1 (list_eq.1 e)
    simp [h1, this]
theorem asking_pick (x : Rl) (w : World) : ∀ (es : List MapEntry) (E : List (Rl × Value)) (i : Nat), es.map (fun e => (e.key, e.val)) = E.map (fun y => (rkey y.1, y.2)) → (Instr.findAsking 82 (rkey x) es i).run Tryz.prog w = .ok (findE x E i) w
  | [], E, i, h => by
    have : E = [] := by cases E with | nil => rfl | cons a b => cases h
    subst this
    simp [Instr.findAsking, findE]
  | e :: es, E, i, h => by
    cases E with
    | nil => cases h
    | cons y E =>
      simp only [List.map_cons, List.cons.injEq, Prod.mk.injEq] at h
      have hq := equal_pick x y.1 w
      rw [← h.1.1] at hq
      have ih := asking_pick x w es E (i + 1) h.2
      by_cases hxy : x = y.1
      · rw [decide_eq_true hxy] at hq
        have hf : findE x (y :: E) i = some (i, e.val) := by simp [findE, hxy, h.1.2]
        rw [hf]
        simp [Instr.findAsking, hq]
      · rw [decide_eq_false hxy] at hq
        simp [Instr.findAsking, hq, findE, hxy, ih]
theorem keyP : KeyOf 82 rkey where
  find x w es E h := by
    rw [run_findKey_eq (P := Tryz.prog) w (k := 82) (by rw [Tryz.underlying82]) (rkey x) es]
    exact asking_pick x w es E 0 h
  check x b w := by cases b <;> kernel_rfl
  stay x w := by
    have h : Instr.sameBits 10000 (rkey x) (rkey x) = true := by
      show Instr.sameBits (9998 + 2) _ _ = true
      first | (simp [Instr.sameBits]; done) | simp [Instr.sameBits, ba_beq]
    unfold Instr.keyThatStays
    rw [if_pos h]
    rfl
end Go.Proofs.YtkbhckjpmgkgjaaGreatDoor
namespace Go.Proofs.YtkbhckjpmgkgjaaGreatDoor
open Go.RowKit
open Go.ChangeMaps (setBlock)

/-- A package as a value. -/
abbrev aggV (d : PV) : Value := .agg #[.string d.1.nm, .string d.1.vr, d.2]
theorem zeroPack (w : World) : (zeroValue 44).run Tryz.prog w = .ok (.agg zeroPk) w := by kernel_rfl
/-- Packages as a map by their keys. -/
structure ThAt (w : World) (m : Nat) (D : List PV) : Prop where
  mp : MpAt rkey w m (D.map fun d => (d.1.key, aggV d))
  nd : ∀ d ∈ D, NeedsIn w d.2 d.1.nd
theorem ThAt.next {w w' : World} {m : Nat} {D : List PV} (h : ThAt w m D) (hb : Below w.heap.size w w') : ThAt w' m D := ⟨h.mp.next hb, fun d hd => (h.nd d hd).keep (Nat.le_refl _) hb⟩
/-- Picks' packages as a map by their names. -/
structure ChAt (w : World) (m : Nat) (C : List PV) : Prop where
  mp : MpAt keS w m (C.map fun d => (d.1.nm, aggV d))
  nd : ∀ d ∈ C, NeedsIn w d.2 d.1.nd
theorem ChAt.next {w w' : World} {m : Nat} {C : List PV} (h : ChAt w m C) (hb : Below w.heap.size w w') : ChAt w' m C := ⟨h.mp.next hb, fun d hd => (h.nd d hd).keep (Nat.le_refl _) hb⟩
/-- Needs stay where maps change. -/
theorem needs_set {w : World} {m : Nat} {o : Obj} {v : Value} {N : List Ned} {es : Array MapEntry} {clk : Nat} (hm : w.heap[m]? = some (.map es clk)) (h : NeedsIn w v N) : NeedsIn (setBlock w m o) v N := by
  obtain ⟨a, g, off, c, h1, h2, h3, h4, h5⟩ := h.ex
  refine ⟨a, g, off, c, h1, h2, fun h => ⟨(h3 h).1, by rw [setBlock_size]; exact (h3 h).2⟩, h4, fun i hi j u hj => ?_⟩
  have h6 := h5 i hi j u hj
  have hne : g ≠ m := fun e => by
    subst e
    unfold World.cell? at h6
    simp only [hm] at h6
    cases h6
  unfold World.cell? at h6 ⊢
  simp only [setBlock_other hne]
  exact h6
theorem ThAt.put {w : World} {m : Nat} {D : List PV} (h : ThAt w m D) {d : PV} (hx : d.1.key ∉ D.map (·.1.key)) (hn : NeedsIn w d.2 d.1.nd) : ∃ o, (Instr.mapUpdate 128 (.map (some m)) (rkey d.1.key) (aggV d)).run Tryz.prog w = .ok () (setBlock w m o) ∧ ThAt (setBlock w m o) m (D ++ [d]) := by
  obtain ⟨o, h1, h2⟩ := put_mp Tryz.underlying128 keyP h.mp (x := d.1.key) (by rw [List.map_map]; exact hx) (aggV d)
  obtain ⟨es, clk, h0, _⟩ := h.mp.ex
  refine ⟨o, h1, ⟨by rw [List.map_append]; exact h2, fun e he => ?_⟩⟩
  rcases List.mem_append.1 he with he | he
  · exact needs_set h0 (h.nd e he)
  · rw [List.mem_singleton.1 he]; exact needs_set h0 hn
theorem ChAt.put {w : World} {m : Nat} {C : List PV} (h : ChAt w m C) {d : PV} (hx : d.1.nm ∉ C.map (·.1.nm)) (hn : NeedsIn w d.2 d.1.nd) : ∃ o, (Instr.mapUpdate 76 (.map (some m)) (.string d.1.nm) (aggV d)).run Tryz.prog w = .ok () (setBlock w m o) ∧ ChAt (setBlock w m o) m (C ++ [d]) := by
  obtain ⟨o, h1, h2⟩ := put_mp Tryz.underlying76 keyS h.mp (x := d.1.nm) (by rw [List.map_map]; exact hx) (aggV d)
  obtain ⟨es, clk, h0, _⟩ := h.mp.ex
  refine ⟨o, h1, ⟨by rw [List.map_append]; exact h2, fun e he => ?_⟩⟩
  rcases List.mem_append.1 he with he | he
  · exact needs_set h0 (h.nd e he)
  · rw [List.mem_singleton.1 he]; exact needs_set h0 hn
theorem find_mapped {κ : Type} [DecidableEq κ] (f : PV → κ) (x : κ) : ∀ (D : List PV) (i : Nat), findE x (D.map fun d => (f d, aggV d)) i = (match D.find? (fun d => decide (f d = x)) with | none => none | some d => (findE x (D.map fun d => (f d, aggV d)) i).map fun p => (p.1, aggV d))
  | [], _ => rfl
  | d :: r, i => by
    by_cases h : x = f d
    · simp [findE, h]
    · have h' : ¬ f d = x := fun e => h e.symm
      have ih := find_mapped f x r (i + 1)
      simp only [List.map_cons, findE, if_neg h, List.find?_cons, decide_eq_false h']
      exact ih
/-- A package is asked for by its key. -/
theorem ThAt.look {w : World} {m : Nat} {D : List PV} (h : ThAt w m D) (x : Rl) : (∃ d ∈ D, packOf (D.map (·.1)) x = some d.1 ∧ (Instr.lookup 128 (.map (some m)) (rkey x) true).run Tryz.prog w = .ok (.tuple #[aggV d, .bool true]) w) ∨ (packOf (D.map (·.1)) x = none ∧ (Instr.lookup 128 (.map (some m)) (rkey x) true).run Tryz.prog w = .ok (.tuple #[.agg zeroPk, .bool false]) w) := by
  have hl := lookup_mp Tryz.underlying128 keyP (.agg zeroPk) zeroPack h.mp x true
  rw [find_mapped (fun d => d.1.key) x D 0] at hl
  have hpk : packOf (D.map (·.1)) x = (D.find? (fun d => decide (d.1.key = x))).map (·.1) := by
    unfold packOf
    rw [List.find?_map]
    rfl
  cases hf : D.find? (fun d => decide (d.1.key = x)) with
  | none =>
    rw [hf] at hl hpk
    exact Or.inr ⟨hpk, hl⟩
  | some d =>
    rw [hf] at hl hpk
    have hd := List.mem_of_find?_eq_some hf
    have hx : d.1.key = x := of_decide_eq_true (List.find?_some (p := fun d : PV => decide (d.1.key = x)) hf)
    cases hE : findE x (D.map fun d => (d.1.key, aggV d)) 0 with
    | none =>
      exact absurd (List.mem_map.2 ⟨(d.1.key, aggV d), List.mem_map.2 ⟨d, hd, rfl⟩, hx⟩) (findE_none.1 hE)
    | some p =>
      rw [hE] at hl
      exact Or.inl ⟨d, hd, hpk, hl⟩
theorem ChAt.look {w : World} {m : Nat} {C : List PV} (h : ChAt w m C) (x : ByteArray) : (∃ d ∈ C, C.find? (fun d => decide (d.1.nm = x)) = some d ∧ d.1.nm = x ∧ (Instr.lookup 76 (.map (some m)) (.string x) true).run Tryz.prog w = .ok (.tuple #[aggV d, .bool true]) w) ∨ (C.find? (fun d => decide (d.1.nm = x)) = none ∧ (Instr.lookup 76 (.map (some m)) (.string x) true).run Tryz.prog w = .ok (.tuple #[.agg zeroPk, .bool false]) w) := by
  have hl := lookup_mp Tryz.underlying76 keyS (.agg zeroPk) zeroPack h.mp x true
  rw [find_mapped (fun d => d.1.nm) x C 0] at hl
  cases hf : C.find? (fun d => decide (d.1.nm = x)) with
  | none =>
    rw [hf] at hl
    exact Or.inr ⟨rfl, hl⟩
  | some d =>
    rw [hf] at hl
    have hd := List.mem_of_find?_eq_some hf
    have hx : d.1.nm = x := of_decide_eq_true (List.find?_some (p := fun d : PV => decide (d.1.nm = x)) hf)
    cases hE : findE x (C.map fun d => (d.1.nm, aggV d)) 0 with
    | none =>
      exact absurd (List.mem_map.2 ⟨(d.1.nm, aggV d), List.mem_map.2 ⟨d, hd, rfl⟩, hx⟩) (findE_none.1 hE)
    | some p =>
      rw [hE] at hl
      exact Or.inl ⟨d, hd, rfl, hx, hl⟩
/-- A package told as a pick. -/
abbrev pkN (d : PV) : Ned := ⟨d.1.nm, d.1.vr⟩
theorem hereB_false {L : List Pak} {P : List Ned} {q : Ned} (hq : q ∈ P) (h : packOf L q.key = none) : hereB L P = false := by
  unfold hereB
  exact @decide_eq_false _ (Classical.propDecidable _) fun k => packOf_none.1 h (k q hq)
theorem hereB_true {L : List Pak} {P : List Ned} (h : ∀ q ∈ P, ∃ p, packOf L q.key = some p) : hereB L P = true := by
  unfold hereB
  refine @decide_eq_true _ (Classical.propDecidable _) fun q hq => ?_
  obtain ⟨p, hp⟩ := h q hq
  obtain ⟨h1, h2⟩ := packOf_some hp
  exact List.mem_map.2 ⟨p, h1, h2⟩
/-- What chosenPacks tells. -/
def CpPost (L : List Pak) (P : List Ned) (w : World) (e : Ending) (w' : World) : Prop := (hereB L P = false ∧ e = .returned (.tuple #[.map none, .bool false]) ∧ Below w.heap.size w w') ∨ (hereB L P = true ∧ ∃ m C, e = .returned (.tuple #[.map (some m), .bool true]) ∧ ChAt w' m C ∧ C.map pkN = P ∧ (∀ d ∈ C, packOf L d.1.key = some d.1) ∧ Below w.heap.size w w')
end Go.Proofs.YtkbhckjpmgkgjaaGreatDoor
namespace Go.Proofs.YtkbhckjpmgkgjaaGreatDoor
open Go.RowKit
open Go.ChangeMaps (setBlock)

set_option maxRecDepth 40000 in
set_option maxHeartbeats 16000000 in
theorem chosen_ok {L : List Pak} {P : List Ned} {qv : Value} {pa : Option Addr} {pc : Nat} (w : World) (hL : PacksIn w qv L) (hl : L.length ≤ 140737488355328) (hP : NeedsIn w (.slice pa P.length pc) P) (hlp : P.length ≤ 140737488355328) (hK : (L.map Pak.key).Nodup) (hN : (P.map Ned.nm).Nodup) : Calls Tryz.prog 40 #[qv, .slice pa P.length pc] w (CpPost L P w) := by
  obtain ⟨a, g, off, c, rfl, h2, h3, h4, h5⟩ := hL.ex
  have HA1 : Hid (0 < L.length → a = some ⟨g, off, none⟩) := fun h => (h3 h).1
  have HA5 : Hid (∀ i (h : i < L.length), ∃ na nc, (∀ wx, Below w.heap.size w wx → wx.rangeAt g (off + i * 3) (encP L[i] (.slice na L[i].nd.length nc))) ∧ ∀ wx, Below w.heap.size w wx → NeedsIn wx (.slice na L[i].nd.length nc) L[i].nd) := fun i hi => by
    obtain ⟨nv, k1, k2⟩ := h5 i hi
    have k2' := k2
    obtain ⟨na, _, _, nc, rfl, _⟩ := k2.ex
    exact ⟨na, nc, fun wx hx j u hj => (hx.cell (p := ⟨g, off + i * 3 + j, none⟩) (h3 (by omega)).2).trans (k1 j u hj), fun wx hx => k2'.keep (Nat.le_refl _) hx⟩
  obtain ⟨b1, pg, poff, pc1, hpe, hp2, hp3, hp4, hp5⟩ := hP.ex
  simp only [Value.slice.injEq, true_and] at hpe
  obtain ⟨rfl, rfl⟩ := hpe
  have HQ1 : Hid (0 < P.length → pa = some ⟨pg, poff, none⟩) := fun h => (hp3 h).1
  have HQ5 : Hid (∀ i (h : i < P.length), ∀ wx, Below w.heap.size w wx → wx.rangeAt pg (poff + i * 2) [.string P[i].nm, .string P[i].rg]) := fun i hi wx hx j u hj => (hx.cell (p := ⟨pg, poff + i * 2 + j, none⟩) (hp3 (by omega)).2).trans (hp5 i hi j u hj)
  have HK : Hid ((L.map Pak.key).Nodup) := hK
  have HNn : Hid ((P.map Ned.nm).Nodup) := hN
  obtain ⟨RP, hRP⟩ : ∃ RP : Ending → World → Prop, RP = CpPost L P w := ⟨_, rfl⟩
  have HRN : Hid (∀ w', hereB L P = false → Below w.heap.size w w' → RP (.returned (.tuple #[.map none, .bool false])) w') := fun w' h1 h2 => by rw [hRP]; exact Or.inl ⟨h1, rfl, h2⟩
  have HRY : Hid (∀ w' m C, hereB L P = true → ChAt w' m C → C.map pkN = P → (∀ d ∈ C, packOf L d.1.key = some d.1) → Below w.heap.size w w' → RP (.returned (.tuple #[.map (some m), .bool true])) w') := fun w' m C h0 h1 h2 h3 h4 => by rw [hRP]; exact Or.inr ⟨h0, m, C, rfl, h1, h2, h3, h4⟩
  rw [← hRP]
  obtain ⟨n, hn⟩ : ∃ n, n = L.length := ⟨_, rfl⟩
  have HN : Hid (n = L.length) := hn
  rw [← hn] at h2 hl ⊢
  obtain ⟨pn, hpn⟩ : ∃ n, n = P.length := ⟨_, rfl⟩
  have HPN : Hid (pn = P.length) := hpn
  rw [← hpn] at hp2 hlp ⊢
  have hmm := run_makeMap_plain (P := Tryz.prog) w 128
  have HT0 : Hid (ThAt (w.alloc (.map #[] 0)) w.heap.size []) := ⟨mp_new _ w, fun d hd => by cases hd⟩
  have HB0 : Hid (Below w.heap.size w (w.alloc (.map #[] 0))) := (Below.refl _ _).alloc (Nat.le_refl _) _
  obtain ⟨m, hm⟩ : ∃ m, m = w.heap.size := ⟨_, rfl⟩
  have HM : Hid (w.heap.size ≤ m) := by show _ ≤ _; omega
  rw [← hm] at hmm HT0
  clear hL h3 h4 h5 hn hpn hP hp3 hp4 hp5 hK hN hRP hm
  go_enter Tryz.func40, Tryz.ntmps40
  go_wp2
  clear hmm
  go_loopw [17] (fun iv wr => ∃ (i : Nat) (D : List PV), i ≤ n ∧ iv = .int .i64 i ∧ Hid (D.map (·.1) = L.take i) ∧ Hid (ThAt wr m D) ∧ Hid (Below w.heap.size w wr)) (fun iv _ => n - (intOf iv).toNat)
  case atStart => exact ⟨0, [], Nat.zero_le _, rfl, rfl, HT0, HB0⟩
  case round =>
    obtain ⟨i, D, hi, rfl, HD, HT, HB⟩ := hrel
    by_cases hlt : i < n
    · have hlt' : (i : Int) < (n : Int) := by omega
      have hiL : i < L.length := by have := HN.out; omega
      obtain rfl := HA1.out (by omega)
      obtain ⟨na, nc, hrg0, hno⟩ := HA5.out i hiL
      have hrg := hrg0 wr HB.out
      obtain ⟨p, hp⟩ : ∃ p, p = L[i] := ⟨_, rfl⟩
      rw [← hp] at hrg hno
      have HTk : Hid (L.take (i + 1) = L.take i ++ [p]) := by show _ = _; rw [List.take_succ_eq_append_getElem hiL, hp]
      have HKn : Hid (p.key ∉ D.map (·.1.key)) := fun h => by
        have h1 : D.map (·.1.key) = (L.take i).map Pak.key := by rw [← HD.out, List.map_map]; rfl
        rw [h1] at h
        have h2 : ((L.take (i + 1)).map Pak.key).Nodup := (HK.out).sublist ((List.take_sublist _ _).map _)
        rw [HTk.out, List.map_append, List.nodup_append] at h2
        exact h2.2.2 _ h _ (List.mem_singleton.2 rfl) rfl
      obtain ⟨nl, hnl⟩ : ∃ nl, nl = p.nd.length := ⟨_, rfl⟩
      rw [← hnl] at hrg hno
      have HNo : Hid (∀ wx, Below w.heap.size w wx → NeedsIn wx (.slice na nl nc) p.nd) := hno
      have hb3 : Below wr.heap.size wr (wr.alloc (.cells #[.string p.nm, .string p.vr, .slice na nl nc] 44)) := (Below.refl _ _).alloc (Nat.le_refl _) _
      have hr3 : Row (wr.alloc (.cells #[.string p.nm, .string p.vr, .slice na nl nc] 44)) wr.heap.size #[.string p.nm, .string p.vr, .slice na nl nc] 44 := Row.new _ _ _
      obtain ⟨w3, hw3⟩ : ∃ x, x = wr.alloc (.cells #[.string p.nm, .string p.vr, .slice na nl nc] 44) := ⟨_, rfl⟩
      rw [← hw3] at hb3 hr3
      have hw3' := hw3.symm
      obtain ⟨k5, hk5⟩ : ∃ k, k = wr.heap.size := ⟨_, rfl⟩
      have hk5' := hk5.symm
      rw [← hk5] at hr3
      have d0 : w3.cell? ⟨k5, 0, none⟩ = some (.string p.nm) := (hr3.cell 0).trans rfl
      have d1 : w3.cell? ⟨k5, 1, none⟩ = some (.string p.vr) := (hr3.cell 1).trans rfl
      have hb3w : Below w.heap.size w w3 := HB.out.trans (hb3.mono HB.out.size)
      obtain ⟨o, hput, hT5⟩ := (HT.out.next hb3).put (d := (p, .slice na nl nc)) HKn.out (hno w3 hb3w)
      have HT5 : Hid (ThAt (setBlock w3 m o) m (D ++ [(p, .slice na nl nc)])) := hT5
      have HB5 : Hid (Below w.heap.size w (setBlock w3 m o)) := hb3w.trans (below_setBlock o HM.out)
      have HD5 : Hid ((D ++ [(p, Value.slice na nl nc)]).map (·.1) = L.take (i + 1)) := by show _ = _; rw [List.map_append, HD.out, HTk.out]; rfl
      have hput2 : (Instr.mapUpdate 128 (.map (some m)) (.agg #[.string p.nm, .string p.vr]) (.agg #[.string p.nm, .string p.vr, .slice na nl nc])).run Tryz.prog w3 = .ok () (setBlock w3 m o) := hput
      clear hp hnl hw3 hk5 hb3 hno hrg0 hput hT5 hb3w
      go_wp2_with (first | refine wpList_load_mid rfl 44 _ rfl g (off + i * 3) rfl _ _ hrg Tryz.underlying44 rfl infoPk ?_ | (refine wpList_store_new rfl 44 _ _ rfl wr zeroPk #[.string p.nm, .string p.vr, .slice na nl nc] 44 rfl wr.heap.size rfl rfl rfl infoPk rfl (pk_one _ _ _ _ _) ?_; rw [hw3']; rw [hk5']) | refine wpList_load_row rfl 44 _ rfl k5 rfl 44 #[.string p.nm, .string p.vr, .slice na nl nc] (0, 0) _ hr3 Tryz.underlying44 rfl infoPk ?_)
      clear hput2 d0 d1 hr3 hrg
      go_roundw
      case rel => exact ⟨i + 1, _, by omega, by go_num, HD5, HT5, HB5⟩
      case measure => simp [intOf]; omega
    · have hlt' : ¬ (i : Int) < (n : Int) := by omega
      have HDL : Hid (D.map (·.1) = L) := by show _ = _; rw [HD.out, List.take_of_length_le (by have := HN.out; omega)]
      obtain ⟨wE, rfl⟩ : ∃ x, x = wr := ⟨wr, rfl⟩
      have hmm := run_makeMap_plain (P := Tryz.prog) wE 76
      have HC0 : Hid (ChAt (wE.alloc (.map #[] 0)) wE.heap.size []) := ⟨mp_new _ wE, fun d hd => by cases hd⟩
      have hba : Below wE.heap.size wE (wE.alloc (.map #[] 0)) := (Below.refl _ _).alloc (Nat.le_refl _) _
      have HT1 : Hid (ThAt (wE.alloc (.map #[] 0)) m D) := HT.out.next hba
      have HB1 : Hid (Below w.heap.size w (wE.alloc (.map #[] 0))) := HB.out.trans (hba.mono HB.out.size)
      obtain ⟨mc, hmc⟩ : ∃ m, m = wE.heap.size := ⟨_, rfl⟩
      have HMC : Hid (w.heap.size ≤ mc ∧ m ≠ mc) := ⟨by have := HB.out.size; omega, by have := HT.out.mp.lt; omega⟩
      rw [← hmc] at hmm HC0
      clear hba hmc HD HT HB
      go_wp2
      clear hmm
      go_loopw [32] (fun iv wr => ∃ (i : Nat) (C : List PV), i ≤ pn ∧ iv = .int .i64 i ∧ Hid (C.map pkN = P.take i) ∧ Hid (∀ d ∈ C, packOf L d.1.key = some d.1) ∧ Hid (ThAt wr m D) ∧ Hid (ChAt wr mc C) ∧ Hid (Below w.heap.size w wr)) (fun iv _ => pn - (intOf iv).toNat)
      case atStart => exact ⟨0, [], Nat.zero_le _, rfl, rfl, (fun d hd => absurd hd List.not_mem_nil), HT1, HC0, HB1⟩
      case round =>
        obtain ⟨j, C, hj, rfl, HC, HPk, HT, HCh, HB⟩ := hrel
        by_cases hlj : j < pn
        · have hlj' : (j : Int) < (pn : Int) := by omega
          have hjP : j < P.length := by have := HPN.out; omega
          obtain rfl := HQ1.out (by omega)
          have hrg := HQ5.out j hjP wr HB.out
          obtain ⟨q, hq⟩ : ∃ q, q = P[j] := ⟨_, rfl⟩
          have HQm : Hid (q ∈ P) := by show _ ∈ _; rw [hq]; exact List.getElem_mem _
          have HTk : Hid (P.take (j + 1) = P.take j ++ [q]) := by show _ = _; rw [List.take_succ_eq_append_getElem hjP, hq]
          have HNw : Hid (q.nm ∉ C.map (·.1.nm)) := fun h => by
            have h1 : C.map (·.1.nm) = (P.take j).map Ned.nm := by rw [← HC.out, List.map_map]; rfl
            rw [h1] at h
            have h2 : ((P.take (j + 1)).map Ned.nm).Nodup := (HNn.out).sublist ((List.take_sublist _ _).map _)
            rw [HTk.out, List.map_append, List.nodup_append] at h2
            exact h2.2.2 _ h _ (List.mem_singleton.2 rfl) rfl
          rw [← hq] at hrg
          have hb3 : Below wr.heap.size wr (wr.alloc (.cells #[.string q.nm, .string q.rg] 82)) := (Below.refl _ _).alloc (Nat.le_refl _) _
          have hr3 : Row (wr.alloc (.cells #[.string q.nm, .string q.rg] 82)) wr.heap.size #[.string q.nm, .string q.rg] 82 := Row.new _ _ _
          obtain ⟨w3, hw3⟩ : ∃ x, x = wr.alloc (.cells #[.string q.nm, .string q.rg] 82) := ⟨_, rfl⟩
          rw [← hw3] at hb3 hr3
          have hw3' := hw3.symm
          obtain ⟨k5, hk5⟩ : ∃ k, k = wr.heap.size := ⟨_, rfl⟩
          have hk5' := hk5.symm
          rw [← hk5] at hr3
          have HB3 : Hid (Below w.heap.size w w3) := HB.out.trans (hb3.mono HB.out.size)
          have hT3 := HT.out.next hb3
          have HC3 : Hid (ChAt w3 mc C) := HCh.out.next hb3
          have HR3 : Hid (Row w3 k5 #[.string q.nm, .string q.rg] 82) := hr3
          have hlook := hT3.look q.key
          rw [HDL.out] at hlook
          have HT3 : Hid (ThAt w3 m D) := hT3
          clear hq hw3 hk5 hb3 hT3
          rcases hlook with ⟨d, hd, hpk, hlk⟩ | ⟨hpk, hlk⟩
          · have hdn := HT3.out.nd d hd
            have hkey := (packOf_some hpk).2
            obtain ⟨⟨dnm, dvr, dnd⟩, dv⟩ := d
            have hdn : NeedsIn w3 dv dnd := hdn
            have hk1 : dnm = q.nm := congrArg Prod.fst hkey
            have hk2 : dvr = q.rg := congrArg Prod.snd hkey
            subst hk1 hk2
            obtain ⟨na, ng, noff, nc, hdv, _⟩ := hdn.ex
            have hdv2 : dv = .slice na dnd.length nc := hdv
            clear hdv
            subst hdv2
            have hlk2 : (Instr.lookup 128 (.map (some m)) (.agg #[.string q.nm, .string q.rg]) true).run Tryz.prog w3 = .ok (.tuple #[.agg #[.string q.nm, .string q.rg, .slice na dnd.length nc], .bool true]) w3 := hlk
            have hb4 : Below w3.heap.size w3 (w3.alloc (.cells #[.string q.nm, .string q.rg, .slice na dnd.length nc] 44)) := (Below.refl _ _).alloc (Nat.le_refl _) _
            have hr4 : Row (w3.alloc (.cells #[.string q.nm, .string q.rg, .slice na dnd.length nc] 44)) w3.heap.size #[.string q.nm, .string q.rg, .slice na dnd.length nc] 44 := Row.new _ _ _
            obtain ⟨w4, hw4⟩ : ∃ x, x = w3.alloc (.cells #[.string q.nm, .string q.rg, .slice na dnd.length nc] 44) := ⟨_, rfl⟩
            rw [← hw4] at hb4 hr4
            have hw4' := hw4.symm
            obtain ⟨k6, hk6⟩ : ∃ k, k = w3.heap.size := ⟨_, rfl⟩
            have hk6' := hk6.symm
            rw [← hk6] at hr4
            have hr34 : Row w4 k5 #[.string q.nm, .string q.rg] 82 := HR3.out.below hb4 HR3.out.lt
            have e0 : w4.cell? ⟨k5, 0, none⟩ = some (.string q.nm) := (hr34.cell 0).trans rfl
            have hb4w : Below w.heap.size w w4 := HB3.out.trans (hb4.mono HB3.out.size)
            obtain ⟨o, hput, hC5⟩ := (HC3.out.next hb4).put (d := (⟨q.nm, q.rg, dnd⟩, .slice na dnd.length nc)) HNw.out (hdn.keep (Nat.le_refl _) hb4)
            have hput2 : (Instr.mapUpdate 76 (.map (some mc)) (.string q.nm) (.agg #[.string q.nm, .string q.rg, .slice na dnd.length nc])).run Tryz.prog w4 = .ok () (setBlock w4 mc o) := hput
            have HC5 : Hid (ChAt (setBlock w4 mc o) mc (C ++ [(⟨q.nm, q.rg, dnd⟩, .slice na dnd.length nc)])) := hC5
            have HB5 : Hid (Below w.heap.size w (setBlock w4 mc o)) := hb4w.trans (below_setBlock o HMC.out.1)
            have HT5 : Hid (ThAt (setBlock w4 mc o) m D) := by
              have h4 := HT3.out.next hb4
              obtain ⟨es, clk, h0, _⟩ := (HC3.out.next hb4).mp.ex
              exact ⟨h4.mp.keep (setBlock_other HMC.out.2), fun d hd => needs_set h0 (h4.nd d hd)⟩
            have HD5 : Hid ((C ++ [((⟨q.nm, q.rg, dnd⟩ : Pak), Value.slice na dnd.length nc)]).map pkN = P.take (j + 1)) := by show _ = _; rw [List.map_append, HC.out, HTk.out]; rfl
            have HP5 : Hid (∀ d ∈ C ++ [((⟨q.nm, q.rg, dnd⟩ : Pak), Value.slice na dnd.length nc)], packOf L d.1.key = some d.1) := fun d hd => by
              rcases List.mem_append.1 hd with hd | hd
              · exact HPk.out d hd
              · rw [List.mem_singleton.1 hd]; exact hpk
            obtain ⟨nl, hnl⟩ : ∃ nl, nl = dnd.length := ⟨_, rfl⟩
            rw [← hnl] at hlk2 hput2 hr4 hw4'
            clear hnl hd hpk hlk hdn hkey hw4 hk6 hb4 hr34 hb4w hput hC5
            go_wp2_with (first | refine wpList_load_mid rfl 82 _ rfl pg (poff + j * 2) rfl _ _ hrg Tryz.underlying82 rfl infoPi ?_ | (refine wpList_store_new rfl 82 _ _ rfl wr zeroNd #[.string q.nm, .string q.rg] 82 rfl wr.heap.size rfl rfl rfl infoPi rfl (nd_one _ _) ?_; rw [hw3']; rw [hk5']) | refine wpList_load_row rfl 82 _ rfl k5 rfl 82 #[.string q.nm, .string q.rg] (0, 0) _ hr3 Tryz.underlying82 rfl infoPi ?_ | (refine wpList_store_new rfl 44 _ _ rfl w3 zeroPk #[.string q.nm, .string q.rg, .slice na nl nc] 44 rfl w3.heap.size rfl rfl rfl infoPk rfl (pk_one _ _ _ _ _) ?_; rw [hw4']; rw [hk6']) | refine wpList_load_row rfl 44 _ rfl k6 rfl 44 #[.string q.nm, .string q.rg, .slice na nl nc] (0, 0) _ hr4 Tryz.underlying44 rfl infoPk ?_)
            clear hput2 hlk2 hr3 hr4 hrg e0
            go_roundw
            case rel => exact ⟨j + 1, _, by omega, by go_num, HD5, HP5, HT5, HC5, HB5⟩
            case measure => simp [intOf]; omega
          · have HF : Hid (hereB L P = false) := hereB_false HQm.out hpk
            have hlk2 : (Instr.lookup 128 (.map (some m)) (.agg #[.string q.nm, .string q.rg]) true).run Tryz.prog w3 = .ok (.tuple #[.agg zeroPk, .bool false]) w3 := hlk
            have HB4 : Hid (Below w.heap.size w (w3.alloc (.cells zeroPk 44))) := HB3.out.alloc HB3.out.size _
            have HFin : Hid (RP (.returned (.tuple #[.map none, .bool false])) (w3.alloc (.cells zeroPk 44))) := HRN.out _ HF.out HB4.out
            clear hlk hpk
            go_wp2_with (first | refine wpList_load_mid rfl 82 _ rfl pg (poff + j * 2) rfl _ _ hrg Tryz.underlying82 rfl infoPi ?_ | (refine wpList_store_new rfl 82 _ _ rfl wr zeroNd #[.string q.nm, .string q.rg] 82 rfl wr.heap.size rfl rfl rfl infoPi rfl (nd_one _ _) ?_; rw [hw3']; rw [hk5']) | refine wpList_load_row rfl 82 _ rfl k5 rfl 82 #[.string q.nm, .string q.rg] (0, 0) _ hr3 Tryz.underlying82 rfl infoPi ?_ | (refine wpList_store_new rfl 44 _ _ rfl w3 zeroPk zeroPk 44 rfl w3.heap.size rfl rfl rfl infoPk rfl (pk_one _ _ _ _ _) ?_))
            exact HFin.out
        · have hlj' : ¬ (j : Int) < (pn : Int) := by omega
          have HCP : Hid (C.map pkN = P) := by show _ = _; rw [HC.out, List.take_of_length_le (by have := HPN.out; omega)]
          have HH : Hid (hereB L P = true) := hereB_true fun q hq => by
            rw [← HCP.out] at hq
            obtain ⟨d, hd, rfl⟩ := List.mem_map.1 hq
            exact ⟨d.1, HPk.out d hd⟩
          have HFin : Hid (RP (.returned (.tuple #[.map (some mc), .bool true])) wr) := HRY.out wr mc C HH.out HCh.out HCP.out HPk.out HB.out
          go_wp2
          exact HFin.out
end Go.Proofs.YtkbhckjpmgkgjaaGreatDoor
namespace Go.Proofs.YtkbhckjpmgkgjaaGreatDoor
open Go.RowKit

/-- A set of a range, as a closure keeps it. -/
structure SkAt (w : World) (k : Nat) (C : List Cut) : Prop where
  ex : ∃ p, w.cell? ⟨k, 0, none⟩ = some p ∧ k < w.heap.size ∧ Gd w p C 578
theorem SkAt.next {w w' : World} {k : Nat} {C : List Cut} (h : SkAt w k C) (hb : Below w.heap.size w w') : SkAt w' k C := by
  obtain ⟨p, h1, h2, h3⟩ := h.ex
  exact ⟨p, (hb.cell (p := ⟨k, 0, none⟩) h2).trans h1, Nat.lt_of_lt_of_le h2 hb.size, h3.next hb⟩
set_option maxRecDepth 20000 in
set_option maxHeartbeats 4000000 in
theorem sought_ok {n : Ned} {C : List Cut} (w : World) (hC : rangeS (vb n.rg) = some C) (hr : n.rg.size ≤ 140737488355328) : Calls Tryz.prog 65 #[.agg #[.string n.nm, .string n.rg]] w fun e w' => ∃ k, e = .returned (.func (.func 99) #[] #[.pointer (some ⟨k, 0, none⟩)]) ∧ SkAt w' k C ∧ Below w.heap.size w w' := by
  have hr1 : Row (w.alloc (.cells #[.string n.nm, .string n.rg] 61)) w.heap.size #[.string n.nm, .string n.rg] 61 := Row.new _ _ _
  have hb1 : Below w.heap.size w (w.alloc (.cells #[.string n.nm, .string n.rg] 61)) := (Below.refl _ _).alloc (Nat.le_refl _) _
  obtain ⟨w1, hw1⟩ : ∃ x, x = w.alloc (.cells #[.string n.nm, .string n.rg] 61) := ⟨_, rfl⟩
  have hw1' := hw1.symm
  rw [← hw1] at hr1 hb1
  have HB1 : Hid (Below w.heap.size w w1) := hb1
  have d1 : w1.cell? ⟨w.heap.size, 1, none⟩ = some (.string n.rg) := (hr1.cell 1).trans rfl
  have hpa := rangeParse_ok n.rg w1 hr
  rw [hC] at hpa
  clear hw1 hr1 hb1 hC hr
  go_enter Tryz.func65, Tryz.ntmps65
  go_wp2_with fail
  refine hpa.mono ?_
  rintro e w2 (⟨h, _⟩ | ⟨C2, p, hC2, rfl, hx, hxl, hb2⟩)
  · cases h
  · obtain rfl : C = C2 := Option.some.inj hC2
    have HG : Hid (Gd w2 p C 578) := ⟨hx, hxl⟩
    obtain ⟨gx, vx, rfl, _⟩ := hx.at'.ex
    have HB2 : Hid (Below w.heap.size w w2) := HB1.out.trans (hb2.mono HB1.out.size)
    clear hpa hC2 hx hxl hb2 d1
    go_wp2
    go_ret
    have hb3 : Below w2.heap.size w2 (w2.alloc (.cells #[.pointer (some ⟨gx, 0, none⟩)] 116)) := (Below.refl _ _).alloc (Nat.le_refl _) _
    have hr3 : Row (w2.alloc (.cells #[.pointer (some ⟨gx, 0, none⟩)] 116)) w2.heap.size #[.pointer (some ⟨gx, 0, none⟩)] 116 := Row.new _ _ _
    exact ⟨w2.heap.size, rfl, ⟨_, (hr3.cell 0).trans rfl, hr3.lt, Gd.next HG.out hb3⟩, HB2.out.trans (hb3.mono HB2.out.size)⟩
/-- Has a range a version's text? -/
def okT (C : List Cut) (t : ByteArray) : Bool := match parseV (vb t) with
  | some x => hasV C x
  | none => false
theorem okT_some {C : List Cut} {t : ByteArray} {x : Ver} (h : parseV (vb t) = some x) : okT C t = hasV C x := by unfold okT; rw [h]
theorem okT_none {C : List Cut} {t : ByteArray} (h : parseV (vb t) = none) : okT C t = false := by unfold okT; rw [h]
set_option maxRecDepth 20000 in
set_option maxHeartbeats 4000000 in
theorem soughtC_ok {C : List Cut} {k : Nat} (t : ByteArray) (w : World) (h : SkAt w k C) (ht : t.size ≤ 140737488355328) (hT : Pw w) : Calls Tryz.prog 99 #[.string t, .pointer (some ⟨k, 0, none⟩)] w fun e w' => e = .returned (.bool (okT C t)) ∧ Below w.heap.size w w' := by
  have hpa := parse_ok t w ht
  have HS : Hid (SkAt w k C) := h
  have HT : Hid (Pw w) := hT
  clear h hT
  cases hp : parseV (vb t) with
  | none =>
    have HE : Hid (okT C t = false) := okT_none hp
    rw [parseE_no hp] at hpa
    clear hp ht
    go_enter Tryz.func99, Tryz.ntmps99
    go_wp2_with fail
    refine hpa.mono ?_
    rintro e w1 ⟨rfl, hb1⟩
    have HB : Hid (Below w.heap.size w (w1.alloc (.cells (verC zeroV) 112))) := Below.alloc hb1 hb1.size _
    clear hpa hb1
    go_wp2_with (refine wpList_store_new rfl 112 _ _ rfl w1 zeroC (verC zeroV) 112 rfl w1.heap.size rfl rfl rfl infoVs rfl (verC_one _) ?_)
    go_ret
    exact ⟨by rw [HE.out]; rfl, HB.out⟩
  | some x =>
    have HE : Hid (okT C t = hasV C x) := okT_some hp
    rw [parseE_yes hp] at hpa
    clear hp ht
    go_enter Tryz.func99, Tryz.ntmps99
    go_wp2_with fail
    refine hpa.mono ?_
    rintro e w1 ⟨rfl, hb1⟩
    have hb2 : Below w1.heap.size w1 (w1.alloc (.cells (verC x) 112)) := (Below.refl _ _).alloc (Nat.le_refl _) _
    have hr2 : Row (w1.alloc (.cells (verC x) 112)) w1.heap.size (verC x) 112 := Row.new _ _ _
    obtain ⟨w2, hw2⟩ : ∃ x', x' = w1.alloc (.cells (verC x) 112) := ⟨_, rfl⟩
    rw [← hw2] at hb2 hr2
    have hw2' := hw2.symm
    obtain ⟨k2, hk2⟩ : ∃ k, k = w1.heap.size := ⟨_, rfl⟩
    have hk2' := hk2.symm
    rw [← hk2] at hr2
    have hbw : Below w.heap.size w w2 := hb1.trans (hb2.mono hb1.size)
    obtain ⟨p, c0, hk, hg⟩ := (HS.out.next hbw).ex
    have hh := hg.has (by omega) (HT.out.keep hbw HT.out.lt) x (hasV C x) rfl
    have HB2 : Hid (Below w.heap.size w w2) := hbw
    obtain ⟨gx, vx, rfl, _⟩ := hg.g.at'.ex
    have v0 : w2.cell? ⟨k2, 0, none⟩ = some (.int .i64 x.n0) := (hr2.cell 0).trans rfl
    have v1 : w2.cell? ⟨k2, 1, none⟩ = some (.int .i64 x.n1) := (hr2.cell 1).trans rfl
    have v2 : w2.cell? ⟨k2, 2, none⟩ = some (.int .i64 x.n2) := (hr2.cell 2).trans rfl
    have v3 : w2.cell? ⟨k2, 3, none⟩ = some (.int .i64 x.n3) := (hr2.cell 3).trans rfl
    have v4 : w2.cell? ⟨k2, 4, none⟩ = some (.int .i64 x.cnt) := (hr2.cell 4).trans rfl
    have v5 : w2.cell? ⟨k2, 5, none⟩ = some (.string x.tag) := (hr2.cell 5).trans rfl
    clear hb1 hb2 hw2 hk2 hbw hk hg hpa
    go_wp2_with (first | (refine wpList_store_new rfl 112 _ _ rfl w1 zeroC (verC x) 112 rfl w1.heap.size rfl rfl rfl infoVs rfl (verC_one _) ?_; rw [hw2']; rw [hk2']) | fail)
    refine hh.mono ?_
    rintro e w3 ⟨rfl, hb3⟩
    have HB3 : Hid (Below w.heap.size w w3) := HB2.out.trans (hb3.mono HB2.out.size)
    clear hh hb3 hr2 c0 v0 v1 v2 v3 v4 v5
    go_wp2
    go_ret
    exact ⟨by rw [HE.out]; rfl, HB3.out⟩
end Go.Proofs.YtkbhckjpmgkgjaaGreatDoor
namespace Go.Proofs.YtkbhckjpmgkgjaaGreatDoor
open Go.RowKit
open Go.ChangeMaps (setBlock)

/-- A need that may be. -/
def NOk (n : Ned) : Prop := (∃ C, rangeS (vb n.rg) = some C) ∧ n.rg.size ≤ 140737488355328
/-- The pick's package of a name. -/
def chOf (C : List PV) (s : ByteArray) : Option PV := C.find? fun d => decide (d.1.nm = s)
theorem chOf_some {C : List PV} {s : ByteArray} {d : PV} (h : chOf C s = some d) : d ∈ C ∧ d.1.nm = s := ⟨List.mem_of_find?_eq_some h, of_decide_eq_true (List.find?_some (p := fun d : PV => decide (d.1.nm = s)) h)⟩
theorem pick_ch (C : List PV) (s : ByteArray) : pickOf (C.map pkN) s = (chOf C s).map pkN := by
  unfold pickOf chOf
  rw [List.find?_map]
  rfl
theorem met_yes {C : List PV} {n : Ned} {Cn : List Cut} {d : PV} (hC : rangeS (vb n.rg) = some Cn) (hd : chOf C n.nm = some d) (h : okT Cn d.1.vr = true) : metP (C.map pkN) n := by
  refine ⟨pkN d, by rw [pick_ch, hd]; rfl, Cn, ?_⟩
  show ∃ x, _ ∧ parseV (vb d.1.vr) = some x ∧ _
  cases hp : parseV (vb d.1.vr) with
  | none => rw [okT_none hp] at h; cases h
  | some x => exact ⟨x, hC, rfl, by rw [← okT_some hp]; exact h⟩
theorem met_no {C : List PV} {n : Ned} {Cn : List Cut} {d : PV} (hC : rangeS (vb n.rg) = some Cn) (hd : chOf C n.nm = some d) (h : okT Cn d.1.vr = false) : ¬ metP (C.map pkN) n := by
  rintro ⟨q, h1, C2, x, h2, h3, h4⟩
  rw [pick_ch, hd] at h1
  cases h1
  rw [hC] at h2
  cases h2
  have h3' : parseV (vb d.1.vr) = some x := h3
  rw [okT_some h3', h4] at h
  cases h
theorem met_none {C : List PV} {n : Ned} (hd : chOf C n.nm = none) : ¬ metP (C.map pkN) n := by
  rintro ⟨q, h1, _⟩
  rw [pick_ch, hd] at h1
  cases h1
/-- What holds of needs, places and names. -/
structure SvI (L : List Pak) (W : List Ned) (C : List PV) (Q : List Ned) (i : Nat) (E : List (ByteArray × Value)) : Prop where
  a : ∀ n ∈ Q, NeedIn L W (C.map pkN) n ∧ NOk n
  w : ∀ n ∈ W, n ∈ Q
  m : ∀ n ∈ Q.take i, metP (C.map pkN) n ∧ n.nm ∈ E.map (·.1)
  nd : (E.map (·.1)).Nodup
  e : ∀ x ∈ E, (∃ n ∈ Q.take i, n.nm = x.1) ∧ ∃ z : Nat, x.2 = .int .i64 (z : Int) ∧ 1 ≤ z ∧ z ≤ i
  c : ∀ s ∈ E.map (·.1), ∀ d, chOf C s = some d → ∀ m ∈ d.1.nd, m ∈ Q
  len : Q.length ≤ W.length + 64 * E.length
theorem SvI.start {L : List Pak} {W : List Ned} {C : List PV} (h : ∀ n ∈ W, NOk n) : SvI L W C W 0 [] :=
  ⟨fun n hn => ⟨.want hn, h n hn⟩, fun n hn => hn, fun n hn => by simp at hn, List.nodup_nil, (fun x hx => by cases hx), (fun s hs => by cases hs), by simp⟩
theorem SvI.few {L : List Pak} {W : List Ned} {C : List PV} {Q : List Ned} {i : Nat} {E : List (ByteArray × Value)} (h : SvI L W C Q i E) : E.length ≤ C.length := by
  have h1 := nodup_le (E.map (·.1)) ((C.map pkN).map Ned.nm) h.nd fun s hs => by
    obtain ⟨x, hx, rfl⟩ := List.mem_map.1 hs
    obtain ⟨⟨n, hn, he⟩, _⟩ := h.e x hx
    rw [← he]
    exact met_name (h.m n hn).1
  simpa using h1
/-- A name that was reached. -/
theorem SvI.again {L : List Pak} {W : List Ned} {C : List PV} {Q : List Ned} {i : Nat} {E : List (ByteArray × Value)} (h : SvI L W C Q i E) {n : Ned} (hi : i < Q.length) (hn : n = Q[i]) (hm : metP (C.map pkN) n) {j : Nat} {v : Value} (hf : findE n.nm E 0 = some (j, v)) : ∃ z : Nat, v = .int .i64 (z : Int) ∧ 1 ≤ z ∧ z ≤ i ∧ SvI L W C Q (i + 1) (E.set j (n.nm, .int .i64 ((z + 1 : Nat) : Int))) := by
  obtain ⟨k, hjk, hE, _⟩ := findE_some hf
  rw [Nat.zero_add] at hjk
  subst hjk
  have hmem := List.mem_of_getElem? hE
  obtain ⟨⟨n0, hn0, he0⟩, z, rfl, hz1, hz2⟩ := h.e _ hmem
  have hkeys : (E.set j (n.nm, Value.int .i64 ((z + 1 : Nat) : Int))).map (·.1) = E.map (·.1) := by
    rw [List.map_set]
    apply List.ext_getElem?
    intro t
    rw [List.getElem?_set]
    by_cases ht : j = t
    · subst ht
      have hjl : j < E.length := (List.getElem?_eq_some_iff.1 hE).1
      rw [if_pos rfl, if_pos (by rw [List.length_map]; exact hjl), List.getElem?_map, hE]
      rfl
    · rw [if_neg ht]
  have hT : Q.take (i + 1) = Q.take i ++ [n] := by rw [List.take_succ_eq_append_getElem hi, hn]
  refine ⟨z, rfl, hz1, hz2, ⟨h.a, h.w, fun m hmm => ?_, by rw [hkeys]; exact h.nd, fun x hx => ?_, by rw [hkeys]; exact h.c, by rw [List.length_set]; exact h.len⟩⟩
  · rw [hT] at hmm
    rw [hkeys]
    rcases List.mem_append.1 hmm with hmm | hmm
    · exact h.m m hmm
    · rw [List.mem_singleton.1 hmm]
      exact ⟨hm, List.mem_map.2 ⟨_, hmem, rfl⟩⟩
  · rw [hT]
    rcases List.mem_or_eq_of_mem_set hx with hx | rfl
    · obtain ⟨⟨n1, h1, h2⟩, z1, h3, h4, h5⟩ := h.e x hx
      exact ⟨⟨n1, List.mem_append_left _ h1, h2⟩, z1, h3, h4, by omega⟩
    · exact ⟨⟨n, List.mem_append_right _ (List.mem_singleton.2 rfl), rfl⟩, z + 1, rfl, by omega, by omega⟩
/-- A name that was not reached. -/
theorem SvI.more {L : List Pak} {W : List Ned} {C : List PV} {Q : List Ned} {i : Nat} {E : List (ByteArray × Value)} (h : SvI L W C Q i E) {n : Ned} (hi : i < Q.length) (hn : n = Q[i]) (hm : metP (C.map pkN) n) (hx : n.nm ∉ E.map (·.1)) {d : PV} (hd : chOf C n.nm = some d) (hp : packOf L d.1.key = some d.1) (hl : d.1.nd.length ≤ 64) (ho : ∀ m ∈ d.1.nd, NOk m) : SvI L W C (Q ++ d.1.nd) (i + 1) (E ++ [(n.nm, .int .i64 ((1 : Nat) : Int))]) := by
  have hT : (Q ++ d.1.nd).take (i + 1) = Q.take i ++ [n] := by
    rw [List.take_append_of_le_length (by omega), List.take_succ_eq_append_getElem hi, hn]
  have hnQ : n ∈ Q := by rw [hn]; exact List.getElem_mem _
  refine ⟨fun m hmm => ?_, fun m hmm => List.mem_append_left _ (h.w m hmm), fun m hmm => ?_, ?_, fun x hxx => ?_, fun s hs e he m hmm => ?_, ?_⟩
  · rcases List.mem_append.1 hmm with hmm | hmm
    · exact h.a m hmm
    · exact ⟨.dep (q := pkN d) (p := d.1) (h.a n hnQ).1 (by rw [pick_ch, hd]; rfl) hp hmm, ho m hmm⟩
  · rw [hT] at hmm
    rw [List.map_append]
    rcases List.mem_append.1 hmm with hmm | hmm
    · exact ⟨(h.m m hmm).1, List.mem_append_left _ (h.m m hmm).2⟩
    · rw [List.mem_singleton.1 hmm]
      exact ⟨hm, List.mem_append_right _ (List.mem_singleton.2 rfl)⟩
  · rw [List.map_append, List.nodup_append]
    refine ⟨h.nd, List.nodup_cons.2 ⟨List.not_mem_nil, List.nodup_nil⟩, fun x hx1 y hy e => hx ?_⟩
    have hy' : y = n.nm := List.mem_singleton.1 hy
    rw [← hy', ← e]
    exact hx1
  · rw [hT]
    rcases List.mem_append.1 hxx with hxx | hxx
    · obtain ⟨⟨n1, h1, h2⟩, z1, h3, h4, h5⟩ := h.e x hxx
      exact ⟨⟨n1, List.mem_append_left _ h1, h2⟩, z1, h3, h4, by omega⟩
    · rw [List.mem_singleton.1 hxx]
      exact ⟨⟨n, List.mem_append_right _ (List.mem_singleton.2 rfl), rfl⟩, 1, rfl, by omega, by omega⟩
  · rw [List.map_append] at hs
    rcases List.mem_append.1 hs with hs | hs
    · exact List.mem_append_left _ (h.c s hs e he m hmm)
    · have hs' : s = n.nm := List.mem_singleton.1 hs
      rw [hs', hd] at he
      cases he
      exact List.mem_append_right _ hmm
  · have := h.len
    rw [List.length_append, List.length_append, List.length_singleton]
    omega
/-- At the end. -/
theorem SvI.ends {L : List Pak} {W : List Ned} {C : List PV} {Q : List Ned} {i : Nat} {E : List (ByteArray × Value)} (h : SvI L W C Q i E) (hi : Q.length ≤ i) (hPk : ∀ d ∈ C, packOf L d.1.key = some d.1) : solB L W (C.map pkN) = decide (E.length = C.length) := by
  have hT : Q.take i = Q := List.take_of_length_le hi
  have hall : ∀ n, NeedIn L W (C.map pkN) n → n ∈ Q := by
    intro n hn
    induction hn with
    | want hw => exact h.w _ hw
    | @dep n q m p hn hq hp hm ih =>
      rw [pick_ch] at hq
      cases hc : chOf C n.nm with
      | none => rw [hc] at hq; cases hq
      | some d =>
        rw [hc] at hq
        simp only [Option.map_some, Option.some.injEq] at hq
        subst hq
        have h1 := hPk d (chOf_some hc).1
        have hp' : packOf L d.1.key = some p := hp
        rw [h1] at hp'
        simp only [Option.some.injEq] at hp'
        subst hp'
        refine h.c n.nm ?_ d hc m hm
        exact (h.m n (by rw [hT]; exact ih)).2
  have hs := sol_of (L := L) (W := W) (P := C.map pkN) h.nd (fun s => ⟨fun hs => by
    obtain ⟨x, hx, rfl⟩ := List.mem_map.1 hs
    obtain ⟨⟨n, hn, he⟩, _⟩ := h.e x hx
    exact ⟨n, (h.a n (List.mem_of_mem_take hn)).1, he⟩, fun ⟨n, hn, he⟩ => by
    rw [← he]
    exact (h.m n (by rw [hT]; exact hall n hn)).2⟩) (fun n hn => (h.m n (by rw [hT]; exact hall n hn)).1)
  rw [List.length_map, List.length_map] at hs
  unfold solB
  by_cases hh : E.length = C.length
  · rw [decide_eq_true hh]
    exact @decide_eq_true _ (Classical.propDecidable _) (hs.2 hh)
  · rw [decide_eq_false hh]
    exact @decide_eq_false _ (Classical.propDecidable _) fun k => hh (hs.1 k)
theorem sol_bad {L : List Pak} {W P : List Ned} {n : Ned} (h : NeedIn L W P n) (hm : ¬ metP P n) : solB L W P = false := by
  unfold solB
  exact @decide_eq_false _ (Classical.propDecidable _) (sol_not h hm)
theorem own_setBlock {w : World} {B s n m : Nat} {e : TypeId} {v : Value} {xs : List Value} {o : Obj} {es : Array MapEntry} {clk : Nat} (hm : w.heap[m]? = some (.map es clk)) (h : w.ownsRow B e s v n xs) : (setBlock w m o).ownsRow B e s v n xs :=
  own_same h fun k hk => setBlock_other fun e => by
    obtain ⟨C, hC⟩ := ownsRow_row h k hk
    rw [e, hm] at hC
    cases hC
end Go.Proofs.YtkbhckjpmgkgjaaGreatDoor
