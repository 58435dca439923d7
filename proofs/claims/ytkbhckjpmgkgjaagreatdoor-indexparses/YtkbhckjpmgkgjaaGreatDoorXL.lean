/- My own work: what holds while the document reads an index. My own work: the document's Parse of an index, by contract. My own work: the law IndexParses. -/
import Derived.Test.YtkbhckjpmgkgjaaGreatDoorXJ
import Derived.Test.YtkbhckjpmgkgjaaGreatDoorXK
namespace Go.Proofs.YtkbhckjpmgkgjaaGreatDoor
open Go.RowKit

theorem fitR_right {L : List Pak} (h : rightL L = 0) : FitR L := fun p hp => by
  obtain ⟨h1, h2, _, h4⟩ := right_small h p hp
  refine ⟨by omega, by omega, fun n hn => ⟨?_, right_rg h p hp n hn⟩⟩
  have := h4 n hn
  omega
/-- What holds ahead of byte i: fr bytes were read, n lines. -/
structure PqR (w wr : World) (s : ByteArray) (i fr n : Nat) (D : List PV) (lv : Value) : Prop where
  own : OwR w wr D lv
  good : rightL (D.map (·.1)) = 0
  run : runL [] 0 (linesL (vb s)) = runL (D.map (·.1)) n (linesL ((vb s).drop fr))
  no : ∀ j, fr ≤ j → j < i → ∀ h : j < s.size, s[j] ≠ 10
  le : fr ≤ i
  nle : n ≤ i
theorem PqR.start (w : World) (s : ByteArray) : PqR w w s 0 0 0 [] (.slice none 0 0) :=
  ⟨⟨World.ownsRow_nil _ _ _ _, (fun d h => by cases h), List.Pairwise.nil, Below.refl _ _⟩, rfl, rfl, fun j _ h => absurd h (by omega), Nat.le_refl _, Nat.le_refl _⟩
section
variable {w wr : World} {s : ByteArray} {i fr n : Nat} {D : List PV} {lv : Value}
theorem PqR.skip (h : PqR w wr s i fr n D lv) (hi : i < s.size) (hc : s[i] ≠ 10) : PqR w wr s (i + 1) fr n D lv :=
  ⟨h.own, h.good, h.run, fun j h1 h2 h3 => by
    by_cases e : j = i
    · subst e; exact hc
    · exact h.no j h1 (by omega) h3, Nat.le_succ_of_le h.le, Nat.le_succ_of_le h.nle⟩
/-- The line that ends at byte i. -/
def lnB (s : ByteArray) (fr i : Nat) : By := vb (s.extract fr i) ++ [10]
theorem PqR.line (h : PqR w wr s i fr n D lv) (hi : i < s.size) (hc : s[i] = 10) : runL [] 0 (linesL (vb s)) = if (lineE (D.map (·.1)) (lnB s fr i)).1 ≠ 0 then ([], n, (lineE (D.map (·.1)) (lnB s fr i)).1) else runL (lineE (D.map (·.1)) (lnB s fr i)).2 (n + 1) (linesL ((vb s).drop (i + 1))) := by
  rw [h.run, lines_at h.no h.le hi hc, run_one]
  rfl
theorem PqR.bad (h : PqR w wr s i fr n D lv) (hi : i < s.size) (hc : s[i] = 10) (hs : s.size ≤ 65536) {er : Int} (he : (lineE (D.map (·.1)) (lnB s fr i)).1 = er) (h0 : er ≠ 0) : parseI (vb s) = ([], n, er) := by
  unfold parseI
  rw [if_neg (by rw [vb_len]; omega), h.line hi hc, he, if_pos h0]
theorem PqR.step (h : PqR w wr s i fr n D lv) (hi : i < s.size) (hc : s[i] = 10) (he : (lineE (D.map (·.1)) (lnB s fr i)).1 = 0) {D' : List PV} {lv' : Value} {w' : World} (hO : OwR w w' D' lv') (hD : (lineE (D.map (·.1)) (lnB s fr i)).2 = D'.map (·.1)) : PqR w w' s (i + 1) (i + 1) (n + 1) D' lv' := by
  refine ⟨hO, by rw [← hD]; exact (line_good h.good he).1, ?_, fun j h1 h2 => absurd h2 (by omega), Nat.le_refl _, by have := h.nle; omega⟩
  rw [h.line hi hc, he, if_neg (by decide), hD]
theorem PqR.fin (h : PqR w wr s s.size fr n D lv) (hs : s.size ≤ 65536) : parseI (vb s) = if fr < s.size then ([], n, 50) else (D.map (·.1), 0, 0) := by
  unfold parseI
  rw [if_neg (by rw [vb_len]; omega), h.run]
  exact lines_end h.no _ _
theorem PqR.few (h : PqR w wr s i fr n D lv) : D.length ≤ 1024 ∧ ∀ d ∈ D, d.1.nd.length ≤ 64 := by
  obtain ⟨⟨h1, h2⟩, _⟩ := rightL_zero.1 h.good
  exact ⟨by rw [List.length_map] at h1; exact h1, fun d hd => h2 d.1 (List.mem_map.2 ⟨d, hd, rfl⟩)⟩
end
/-- Behind the taking of a line, ahead of the look at what it took. -/
structure AddAt (w wr : World) (st : List Pak) (x : By) (D' : List PV) (ov : Value) (k : Nat) (p : Pak) : Prop where
  own : OwR w wr D' ov
  len : D'.length = k + 1
  get : (D'.map (·.1))[k]? = some p
  k24 : k ≤ 1024
  nd : p.nd.length ≤ 65
  er : (lineE st x).1 = lineErr (packE (((D'.map (·.1)).take k).map Pak.key) p) (decide (1024 < k + 1 ∨ 64 < p.nd.length))
  st : (lineE st x).1 = 0 → (lineE st x).2 = D'.map (·.1)
  fit : FitR (D'.map (·.1))
  few : ∀ d ∈ D', d.1.nd.length ≤ 65
theorem said_pack {st : List Pak} {l : By} {a n r : ByteArray} (hl : cutAll 32 l = [vb a, vb n, vb r]) (ha : vb a = wPack) : lineE st (l ++ [10]) = putPack st n r := by
  rw [line_said, hl]
  show (if vb a = wPack then putPack st (tx (vb n)) (tx (vb r)) else _) = _
  rw [if_pos ha, tx_vb, tx_vb]
theorem said_need {st : List Pak} {l : By} {a n r : ByteArray} (hl : cutAll 32 l = [vb a, vb n, vb r]) (ha : vb a = wNeed) : lineE st (l ++ [10]) = putNeed st n r := by
  rw [line_said, hl]
  show (if vb a = wPack then _ else if vb a = wNeed then putNeed st (tx (vb n)) (tx (vb r)) else _) = _
  rw [if_neg (by rw [ha]; decide), if_pos ha, tx_vb, tx_vb]
theorem said_other {st : List Pak} {l : By} {a n r : ByteArray} (hl : cutAll 32 l = [vb a, vb n, vb r]) (h1 : vb a ≠ wPack) (h2 : vb a ≠ wNeed) : (lineE st (l ++ [10])).1 = 50 := by
  rw [line_said, hl]
  show (if vb a = wPack then _ else if vb a = wNeed then _ else ((50 : Int), st)).1 = _
  rw [if_neg h1, if_neg h2]
theorem take_left {α : Type} (l : List α) (x : α) : (l ++ [x]).take l.length = l := by rw [List.take_left']; rfl
/-- A package was taken. -/
theorem AddAt.pack {w w5 w8 : World} {D : List PV} {ov v8 : Value} {l : By} {a n r : ByteArray} (hO : OwR w w5 D ov) (hg : rightL (D.map (·.1)) = 0) (hl : cutAll 32 l = [vb a, vb n, vb r]) (ha : vb a = wPack) (hn : n.size ≤ 65536) (hr : r.size ≤ 65536)
    (ho : w8.ownsRow w.heap.size 44 3 v8 (D.length + 1) (flatD D ++ encP ⟨n, r, []⟩ (.slice none 0 0))) (hgr : w5.grownBy w8 ov.ownBlock) : AddAt w w8 (D.map (·.1)) (l ++ [10]) (D ++ [(⟨n, r, []⟩, .slice none 0 0)]) v8 D.length ⟨n, r, []⟩ := by
  obtain ⟨⟨g1, g2⟩, _⟩ := rightL_zero.1 hg
  rw [List.length_map] at g1
  obtain ⟨s1, s2⟩ := pack_said hg n r
  rw [List.length_map] at s1
  refine ⟨OwR.more hO (World.ownsRow_nil _ _ _ _) (fun d _ a b _ hb => by cases hb) ho hgr, by simp, by simp, g1, Nat.zero_le _, ?_, fun h => ?_, fun p hp => ?_, fun d hd => ?_⟩
  · rw [said_pack hl ha, s1, List.map_append]
    have e : ((D.map (·.1)) ++ [(⟨n, r, []⟩ : Pak)]).take D.length = D.map (·.1) := by
      have := take_left (D.map (·.1)) (⟨n, r, []⟩ : Pak)
      rw [List.length_map] at this
      exact this
    show _ = lineErr (packE ((((D.map (·.1)) ++ [(⟨n, r, []⟩ : Pak)]).take D.length).map Pak.key) _) _
    rw [e]
    rfl
  · rw [said_pack hl ha] at h ⊢
    rw [s2 h, List.map_append]
    rfl
  · rw [List.map_append] at hp
    rcases List.mem_append.1 hp with hp | hp
    · exact fitR_right hg p hp
    · rw [List.mem_singleton.1 hp]
      exact ⟨by show n.size ≤ _; omega, by show r.size ≤ _; omega, fun m hm => by cases hm⟩
  · rcases List.mem_append.1 hd with hd | hd
    · have := g2 d.1 (List.mem_map.2 ⟨d, hd, rfl⟩)
      omega
    · rw [List.mem_singleton.1 hd]; exact Nat.zero_le _
/-- A need was taken. -/
theorem AddAt.need {w w6 w8 : World} {D : List PV} {go oc k : Nat} {v8 : Value} {l : By} {a n r : ByteArray} (hO : OwR w w6 D (.slice (some ⟨go, 0, none⟩) D.length oc)) (hg : rightL (D.map (·.1)) = 0) (hk : D.length = k + 1) (hl : cutAll 32 l = [vb a, vb n, vb r]) (ha : vb a = wNeed) (hn : n.size ≤ 65536) (hr : r.size ≤ 65536)
    (h8 : w8.ownsRow w.heap.size 61 2 v8 ((D[k]'(by omega)).1.nd.length + 1) (flatN (D[k]'(by omega)).1.nd ++ encN ⟨n, r⟩)) (hgr : w6.grownBy w8 ((D[k]'(by omega)).2).ownBlock) (hd : v8.ownBlock = ((D[k]'(by omega)).2).ownBlock ∨ v8.ownBlock = some w6.heap.size) :
    AddAt w (w8.setCell ⟨go, k * 3 + 2, none⟩ v8) (D.map (·.1)) (l ++ [10]) (D.set k (⟨(D[k]'(by omega)).1.nm, (D[k]'(by omega)).1.vr, (D[k]'(by omega)).1.nd ++ [⟨n, r⟩]⟩, v8)) (.slice (some ⟨go, 0, none⟩) D.length oc) k ⟨(D[k]'(by omega)).1.nm, (D[k]'(by omega)).1.vr, (D[k]'(by omega)).1.nd ++ [⟨n, r⟩]⟩ := by
  have hkD : k < D.length := by omega
  obtain ⟨⟨g1, g2⟩, _⟩ := rightL_zero.1 hg
  rw [List.length_map] at g1
  have hL : (D.map (·.1)).length = k + 1 := by rw [List.length_map]; exact hk
  have hp : D[k].1 = (D.map (·.1))[k]'(by omega) := by rw [List.getElem_map]
  obtain ⟨s1, s2⟩ := need_said hg hL n r hp
  have hnd := g2 D[k].1 (List.mem_map.2 ⟨D[k], List.getElem_mem hkD, rfl⟩)
  have hset : (D.set k (⟨D[k].1.nm, D[k].1.vr, D[k].1.nd ++ [⟨n, r⟩]⟩, v8)).map (·.1) = (D.map (·.1)).set k ⟨D[k].1.nm, D[k].1.vr, D[k].1.nd ++ [⟨n, r⟩]⟩ := by rw [List.map_set]
  have htk : ((D.map (·.1)).set k ⟨D[k].1.nm, D[k].1.vr, D[k].1.nd ++ [⟨n, r⟩]⟩).take k = (D.map (·.1)).take k := by rw [List.take_set_of_le (Nat.le_refl _)]
  refine ⟨hO.grow hkD (nd := D[k].1.nd ++ [⟨n, r⟩]) (by rw [List.length_append, flatN_app]; exact h8) hgr hd, by rw [List.length_set]; exact hk, ?_, by omega, by show (D[k].1.nd ++ [_]).length ≤ 65; rw [List.length_append]; simp; omega, ?_, fun h => ?_, fun q hq => ?_, fun d hd' => ?_⟩
  · rw [hset, List.getElem?_set_self (by omega)]
  · rw [said_need hl ha, s1, hset, htk]
    have : (D[k].1.nd ++ [(⟨n, r⟩ : Ned)]).length = D[k].1.nd.length + 1 := by rw [List.length_append]; rfl
    show lineErr _ _ = lineErr _ (decide (1024 < k + 1 ∨ 64 < (D[k].1.nd ++ [(⟨n, r⟩ : Ned)]).length))
    rw [this]
  · rw [said_need hl ha] at h ⊢
    rw [s2 h, hset]
  · rw [hset] at hq
    have hf := fitR_right hg
    rcases List.mem_or_eq_of_mem_set hq with hq | rfl
    · exact hf q hq
    · obtain ⟨f1, f2, f3⟩ := hf D[k].1 (List.mem_map.2 ⟨D[k], List.getElem_mem hkD, rfl⟩)
      refine ⟨f1, f2, fun m hm => ?_⟩
      rcases List.mem_append.1 hm with hm | hm
      · exact f3 m hm
      · rw [List.mem_singleton.1 hm]
        exact ⟨by show n.size ≤ _; omega, by show r.size ≤ _; omega⟩
  · rcases List.mem_or_eq_of_mem_set hd' with hd' | rfl
    · have := g2 d.1 (List.mem_map.2 ⟨d, hd', rfl⟩)
      omega
    · show (D[k].1.nd ++ [_]).length ≤ 65
      rw [List.length_append]
      simp
      omega
/-- Where the last package's needs stand. -/
theorem OwR.cellN {w wr : World} {D : List PV} {go oc : Nat} (h : OwR w wr D (.slice (some ⟨go, 0, none⟩) D.length oc)) {k : Nat} (hk : k < D.length) : wr.cell? ⟨go, k * 3 + 2, none⟩ = some (D[k].2) := by
  rw [h.own.cellAt (k * 3 + 2) (by omega), flatD_at D k hk 2 (by omega)]
  rfl
theorem OwR.mid {w w6 w8 : World} {D : List PV} {go oc : Nat} (h : OwR w w6 D (.slice (some ⟨go, 0, none⟩) D.length oc)) {k : Nat} (hk : k < D.length) (hg : w6.grownBy w8 (D[k].2).ownBlock) : w8.cell? ⟨go, k * 3 + 2, none⟩ = some (D[k].2) ∧ w8.frozen? ⟨go, k * 3 + 2, none⟩ = false := by
  obtain ⟨C, hC⟩ := ownsRow_row h.own go rfl
  have hgo := own_block h.own go rfl
  have hne : (D[k].2).ownBlock ≠ some go := fun e => by
    obtain ⟨G, hG⟩ := ownsRow_row (h.nds D[k] (List.getElem_mem hk)) go e
    rw [hC] at hG
    simp at hG
  have hgo8 : Row w8 go C 44 := (hg.block go hgo.2 fun e => hne e.symm).trans hC
  have hr6 : Row w6 go C 44 := hC
  refine ⟨?_, hgo8.frozen _⟩
  rw [hgo8.cell, ← hr6.cell]
  exact h.cellN hk
end Go.Proofs.YtkbhckjpmgkgjaaGreatDoor
namespace Go.Proofs.YtkbhckjpmgkgjaaGreatDoor
open Go.RowKit

theorem tolist_vb (a : ByteArray) : a.toList = vb a := by rw [ByteArray.toList_eq]
theorem tolist_pk {a : ByteArray} (h : a.toList = [112, 97, 99, 107, 97, 103, 101]) : a = ⟨#[112, 97, 99, 107, 97, 103, 101]⟩ := vb_inj (by rw [← tolist_vb, h])
theorem tolist_nd {a : ByteArray} (h : a.toList = [110, 101, 101, 100, 115]) : a = ⟨#[110, 101, 101, 100, 115]⟩ := vb_inj (by rw [← tolist_vb, h])
theorem word_eq {a : ByteArray} (h : vb a = wPack) : a = ⟨#[112, 97, 99, 107, 97, 103, 101]⟩ := vb_inj h
theorem word_eqn {a : ByteArray} (h : vb a = wNeed) : a = ⟨#[110, 101, 101, 100, 115]⟩ := vb_inj h
theorem nil_eq (w : World) : Sem.run Tryz.prog (binOp BinOp.eql 38 (.slice none 0 0) (.slice none 0 0)) w = .ok (.bool true) w := by kernel_rfl
theorem some_eq (g c : Nat) (w : World) : Sem.run Tryz.prog (binOp BinOp.eql 38 (.slice (some ⟨g, 0, none⟩) 3 c) (.slice none 0 0)) w = .ok (.bool false) w := by kernel_rfl
theorem said_need_lnB {st : List Pak} {s : ByteArray} {fr i : Nat} {a n r : ByteArray} (hl : cutAll 32 (vb (s.extract fr i)) = [vb a, vb n, vb r]) (ha : vb a = wNeed) : (lineE st (lnB s fr i)).1 = (putNeed st n r).1 := by
  unfold lnB
  rw [said_need hl ha]
set_option maxRecDepth 40000 in
set_option maxHeartbeats 32000000 in
theorem refParseI_ok (s : ByteArray) (w : World) (hs0 : s.size ≤ 140737488355328) : Calls Tryz.prog 8 #[.string s] w (PaRes w (vb s)) := by
  obtain ⟨RP, hRP⟩ : ∃ RP, RP = PaRes w (vb s) := ⟨_, rfl⟩
  have HRPe : Hid (∀ (n : Nat) (er : Int), parseI (vb s) = ([], n, er) → er ≠ 0 → ∀ w', Below w.heap.size w w' → RP (.returned (.tuple #[.slice none 0 0, .int .i64 n, .int .i64 er])) w') := fun n er h h0 w' hb => by
    rw [hRP]
    unfold PaRes
    rw [h]
    exact .inr ⟨h0, rfl, hb⟩
  have HRPo : Hid (∀ D ov w', parseI (vb s) = (D.map (·.1), 0, 0) → OwR w w' D ov → RP (.returned (.tuple #[ov, .int .i64 0, .int .i64 0])) w') := fun D ov w' h hO => by
    rw [hRP]
    unfold PaRes
    rw [h]
    exact .inl ⟨rfl, ov, D, rfl, rfl, hO⟩
  rw [← hRP]
  clear hRP
  by_cases hbig : 65536 < s.size
  · have hbig' : (65536 : Int) < (s.size : Int) := by omega
    have HE : Hid (RP (.returned (.tuple #[.slice none 0 0, .int .i64 0, .int .i64 3])) w) := HRPe.out 0 3 (if_pos (by rw [vb_len]; exact hbig)) (by decide) w (Below.refl _ _)
    go_enter Tryz.func8, Tryz.ntmps8
    go_wp2
    go_ret3
    exact HE.out
  have hbig' : ¬ (65536 : Int) < (s.size : Int) := by omega
  have hs : s.size ≤ 65536 := by omega
  have HS : Hid (s.size ≤ 65536) := hs
  have H0 : Hid (PqR w w s 0 0 0 [] (.slice none 0 0)) := PqR.start w s
  clear hs0
  go_enter Tryz.func8, Tryz.ntmps8
  go_wp2
  clear hbig hbig'
  go_loopw [5, 6, 7, 8] (fun lv nv fv iv wr => ∃ (i fr n : Nat) (D : List PV), i ≤ s.size ∧ iv = .int .i64 i ∧ fv = .int .i64 fr ∧ nv = .int .i64 n ∧ Hid (PqR w wr s i fr n D lv)) (fun _ _ _ iv _ => s.size - (intOf iv).toNat)
  case atStart => exact ⟨0, 0, 0, [], Nat.zero_le _, rfl, rfl, rfl, H0.out⟩
  case round =>
    clear H0
    obtain ⟨i, fr, n, D, hi, rfl, rfl, rfl, HQ⟩ := hrel
    obtain ⟨la, lc, rfl⟩ := slice_of (HQ.out.own).own
    obtain ⟨dl, hdl⟩ : ∃ dl, dl = D.length := ⟨_, rfl⟩
    have HDl : Hid (dl = D.length) := hdl
    rw [← hdl] at HQ ⊢
    have hdl24 : dl ≤ 1024 := by rw [hdl]; exact (HQ.out.few).1
    have hfi := HQ.out.le
    have hni := HQ.out.nle
    have HOw : Hid (OwR w wr D (.slice la dl lc)) := HQ.out.own
    clear hdl
    obtain ⟨wE, rfl⟩ : ∃ x, x = wr := ⟨wr, rfl⟩
    by_cases hlt : i < s.size
    · have hlt' : (i : Int) < (s.size : Int) := by omega
      by_cases h10 : s[i] = 10
      · have HC10 : Hid (s[i] = 10) := h10
        have h10' : s[i].toNat = 10 := by rw [h10]; rfl
        obtain ⟨t, ht⟩ : ∃ t, t = s.extract fr i := ⟨_, rfl⟩
        have ht' := ht.symm
        have HT : Hid (s.extract fr i = t) := ht'
        have hts : t.size ≤ 65536 := by rw [ht, ByteArray.size_extract]; omega
        have hwd := words_ok t wE hts
        have hfI : (fr : Int) ≤ (i : Int) := by omega
        have hsI : (i : Int) ≤ (s.size : Int) := by omega
        clear h10 ht
        go_wp2_with fail
        refine hwd.mono ?_
        rintro e w2 (⟨hnot, rfl, hb2⟩ | ⟨gw, gc, a, nm, rg, rfl, hgc, hcut, hsa, hsn, hsr, hc0, hc1, hc2, -, hgw, hb2⟩)
        · have HB2 : Hid (Below w.heap.size w w2) := (HOw.out).old.trans (hb2.mono (HOw.out).old.size)
          clear hwd hb2
          have hnl2 := nil_eq w2
          have HE50 : Hid (RP (.returned (.tuple #[.slice none 0 0, .int .i64 n, .int .i64 50])) w2) := HRPe.out n 50 (HQ.out.bad hlt HC10.out HS.out (er := 50) (line_bad (by rw [HT.out]; exact hnot)) (by decide)) (by decide) w2 HB2.out
          clear hnot
          go_wp2
          go_ret3
          exact HE50.out
        have HB12 : Hid (Below wE.heap.size wE w2) := hb2
        have HB2 : Hid (Below w.heap.size w w2) := (HOw.out).old.trans (hb2.mono (HOw.out).old.size)
        have HCut : Hid (cutAll 32 (vb (s.extract fr i)) = [vb a, vb nm, vb rg]) := by show _ = _; rw [HT.out]; exact hcut
        have HSn : Hid (nm.size ≤ 65536) := by show _ ≤ _; omega
        have HSr : Hid (rg.size ≤ 65536) := by show _ ≤ _; omega
        have HC1 : Hid (w2.cell? ⟨gw, 1, none⟩ = some (.string nm)) := hc1
        have HC2 : Hid (w2.cell? ⟨gw, 2, none⟩ = some (.string rg)) := hc2
        have HGw : Hid (wE.heap.size ≤ gw) := hgw
        have hns2 := some_eq gw gc w2
        clear hwd hb2 hcut hsa hsn hsr hc1 hc2 hgw hts
        by_cases hap : a = ⟨#[112, 97, 99, 107, 97, 103, 101]⟩
        · have HWp : Hid (vb a = wPack) := by show _ = _; rw [hap]; rfl
          subst hap
          have HOw2 : Hid (OwR w w2 D (.slice la dl lc)) := HOw.out.next HB12.out
          have hone := one_pk nm rg none 0 0 w2.drew
          have hr1 := HC1.out
          have hr2 := HC2.out
          go_upto_region 15 with fail
          refine wp_region_permA [(false, 0), (false, 1), (false, 2), (false, 3), (false, 4), (false, 5), (false, 6), (false, 7), (true, 8), (true, 9), (true, 10)] (fun wx => wx.cell? ⟨gw, 1, none⟩ = some (.string nm) ∧ wx.cell? ⟨gw, 2, none⟩ = some (.string rg)) (by kernel_rfl) (by kernel_rfl) ⟨hr1, hr2⟩ ?_
          refine a_value (some 63) (.slice la dl lc) rfl rfl (by rfl) (fun wx hw => ?_) ?_
          · go_simp
          simp only [Act.put, List.setIfInBounds_toArray, List.set_cons_zero, List.set_cons_succ]
          refine a_value (some 64) (.slice (some ⟨gw, 0, none⟩) 3 gc) rfl rfl (by rfl) (fun wx hw => ?_) ?_
          · go_simp
          simp only [Act.put, List.setIfInBounds_toArray, List.set_cons_zero, List.set_cons_succ]
          refine a_value (some 65) (.pointer (some ⟨gw, 1, none⟩)) rfl rfl (by rfl) (fun wx hw => ?_) ?_
          · go_simp
          simp only [Act.put, List.setIfInBounds_toArray, List.set_cons_zero, List.set_cons_succ]
          refine a_value (some 66) (.string nm) rfl rfl (by rfl) (fun wx hw => ?_) ?_
          · have hc := hw.1
            go_simp
          simp only [Act.put, List.setIfInBounds_toArray, List.set_cons_zero, List.set_cons_succ]
          refine a_value (some 67) (.slice (some ⟨gw, 0, none⟩) 3 gc) rfl rfl (by rfl) (fun wx hw => ?_) ?_
          · go_simp
          simp only [Act.put, List.setIfInBounds_toArray, List.set_cons_zero, List.set_cons_succ]
          refine a_value (some 68) (.pointer (some ⟨gw, 2, none⟩)) rfl rfl (by rfl) (fun wx hw => ?_) ?_
          · go_simp
          simp only [Act.put, List.setIfInBounds_toArray, List.set_cons_zero, List.set_cons_succ]
          refine a_value (some 69) (.string rg) rfl rfl (by rfl) (fun wx hw => ?_) ?_
          · have hc := hw.2
            go_simp
          simp only [Act.put, List.setIfInBounds_toArray, List.set_cons_zero, List.set_cons_succ]
          refine a_value (some 70) (.agg #[.string nm, .string rg, .slice none 0 0]) rfl rfl (by rfl) (fun wx hw => ?_) ?_
          · go_simp
          simp only [Act.put, List.setIfInBounds_toArray, List.set_cons_zero, List.set_cons_succ]
          obtain ⟨w5, hw5⟩ : ∃ x, x = w2.drew.alloc (.cells #[.string nm, .string rg, .slice none 0 0] 44) := ⟨_, rfl⟩
          have hb5 : Below w2.heap.size w2 w5 := by rw [hw5]; exact ((Below.refl _ _).drew).alloc (Nat.le_refl _) _
          have hc1 : w5.cell? ⟨gw, 1, none⟩ = some (.string nm) := (hb5.cell (p := ⟨gw, 1, none⟩) (World.block_lt_of_cell? _ _ HC1.out)).trans HC1.out
          have hc2 : w5.cell? ⟨gw, 2, none⟩ = some (.string rg) := (hb5.cell (p := ⟨gw, 2, none⟩) (World.block_lt_of_cell? _ _ HC2.out)).trans HC2.out
          have hnew : ∀ j u, (encP ⟨nm, rg, []⟩ (.slice none 0 0))[j]? = some u → w5.cell? ⟨w2.heap.size, 0 + j, none⟩ = some u := fun j u hj => by
            have hr : Row w5 w2.heap.size #[.string nm, .string rg, .slice none 0 0] 44 := by rw [hw5]; exact Row.new w2.drew _ _
            rw [Nat.zero_add, hr.cell j, ← hj]
            exact List.getElem?_toArray
          have HO5 : Hid (OwR w w5 D (.slice la dl lc)) := HOw2.out.next hb5
          have hown5 := (HO5.out).own
          rw [← HDl.out] at hown5
          have hlow5 : w.heap.size ≤ w5.heap.size := (HO5.out).old.size
          refine a_alone (some 71) (.slice (some ⟨w2.heap.size, 0, none⟩) 1 1) w5 rfl rfl (by rfl) (by rw [hw5]; go_simp) ⟨hc1, hc2⟩ ?_
          simp only [Act.put, List.setIfInBounds_toArray, List.set_cons_zero, List.set_cons_succ]
          refine a_wp rfl (by rfl) ?_
          refine wp_append_any (some 72) rfl (.tmp 63) (.tmp 71) 22 44 (.agg zeroPk) 3 56 Tryz.underlying22 infoPkz rfl (by decide) rfl w.heap.size (.slice la dl lc) dl (flatD D) rfl hown5 (some ⟨w2.heap.size, 0, none⟩) w2.heap.size 0 1 1 (encP ⟨nm, rg, []⟩ (.slice none 0 0)) rfl rfl (fun _ => rfl) hnew (fun u hu => by simp at hu; rcases hu with rfl | rfl | rfl <;> rfl) (fun h => nomatch h) (by unfold maxLen; omega) (by omega) hlow5 ?_
          intro ov' w8 ho8 hg8 _
          have hgne : (Value.slice la dl lc).ownBlock ≠ some gw := fun e => by
            have h1 := (own_block (HOw.out).own gw e).2
            have h2 := HGw.out
            omega
          have hlt5 : gw < w5.heap.size := World.block_lt_of_cell? _ _ hc1
          have hblk : w8.heap[gw]? = w5.heap[gw]? := hg8.block gw hlt5 fun e => hgne e.symm
          have hc18 : w8.cell? ⟨gw, 1, none⟩ = some (.string nm) := (World.cell?_of_block (w := w5) (a := ⟨gw, 1, none⟩) hblk).trans hc1
          have hc28 : w8.cell? ⟨gw, 2, none⟩ = some (.string rg) := (World.cell?_of_block (w := w5) (a := ⟨gw, 2, none⟩) hblk).trans hc2
          have HAdd : Hid (AddAt w w8 (D.map (·.1)) (lnB s fr i) (D ++ [(⟨nm, rg, []⟩, .slice none 0 0)]) ov' D.length ⟨nm, rg, []⟩) := AddAt.pack HO5.out HQ.out.good HCut.out HWp.out HSn.out HSr.out (by rw [← HDl.out]; exact ho8) hg8
          rw [← HDl.out] at HAdd
          obtain ⟨D', hD'⟩ : ∃ D', D' = D ++ [((⟨nm, rg, []⟩ : Pak), Value.slice none 0 0)] := ⟨_, rfl⟩
          rw [← hD'] at HAdd
          obtain ⟨p, hp⟩ : ∃ p, p = (⟨nm, rg, []⟩ : Pak) := ⟨_, rfl⟩
          rw [← hp] at HAdd
          obtain ⟨k, hk⟩ : ∃ k, k = dl := ⟨_, rfl⟩
          rw [← hk] at HAdd
          obtain ⟨va, vc, hva⟩ := slice_of ho8
          have hS8 : w8.cell? ⟨gw, 1, none⟩ = some (.string nm) ∧ w8.cell? ⟨gw, 2, none⟩ = some (.string rg) := ⟨hc18, hc28⟩
          refine ⟨hS8, ?_⟩
          simp only [Act.put, List.setIfInBounds_toArray, List.set_cons_zero, List.set_cons_succ]
          refine a_alone (some 5) ov' w8 rfl rfl (by rfl) (by kernel_rfl) hS8 ?_
          simp only [Act.put, List.setIfInBounds_toArray, List.set_cons_zero, List.set_cons_succ]
          refine a_done ?_
          try simp only [Exit.then]
          obtain ⟨wA, hwA⟩ : ∃ x, x = w8 := ⟨_, rfl⟩
          rw [← hwA] at HAdd
          rw [← hwA]
          clear ho8 hg8 hgne hblk hc18 hc28 hc1 hc2 hnew hown5 hb5 hw5 hone hD' hp hva hS8 hwA hlow5 hlt5 hr1 hr2 hk
          obtain ⟨go, oc, rfl⟩ : ∃ go oc, ov' = .slice (some ⟨go, 0, none⟩) (k + 1) oc := by
            obtain ⟨_, ⟨_, h0⟩ | ⟨g, cap, cur, h1, _⟩⟩ := id (HAdd.out.own).own
            · have := HAdd.out.len
              omega
            · rw [HAdd.out.len] at h1
              exact ⟨g, cap, h1⟩
          have hoc : k + 1 ≤ oc := by
            obtain ⟨_, ⟨h0, _⟩ | ⟨g, cap, cur, h1, _, _, h4, _⟩⟩ := id (HAdd.out.own).own
            · cases h0
            · simp only [Value.slice.injEq] at h1
              have := HAdd.out.len
              omega
          obtain ⟨m, hm⟩ : ∃ m, m = k + 1 := ⟨_, rfl⟩
          have HM : Hid (m = k + 1) := hm
          have hkD : k < D'.length := by have := HAdd.out.len; omega
          have hpk : PacksIn wA (.slice (some ⟨go, 0, none⟩) (D'.map (·.1)).length oc) (D'.map (·.1)) := by
            have h := (HAdd.out.own).packs
            rw [List.length_map, HAdd.out.len]
            exact h
          have hk24 := HAdd.out.k24
          have hge := HAdd.out.get
          have hkL : k < (D'.map (·.1)).length := by rw [List.length_map]; exact hkD
          have hgp : (D'.map (·.1))[k] = p := by rw [List.getElem?_eq_getElem hkL] at hge; exact Option.some.inj hge
          have hpc := refPack_ok k wA hpk HAdd.out.fit (by rw [List.length_map]; have := HAdd.out.len; omega) (fun q hq => by
            obtain ⟨d, hd, rfl⟩ := List.mem_map.1 hq
            have := HAdd.out.few d hd
            omega) hkL
          rw [hgp, List.length_map, HAdd.out.len, ← hm] at hpc
          obtain ⟨R, hR⟩ : ∃ R, R = packE (((D'.map (·.1)).take k).map Pak.key) p := ⟨_, rfl⟩
          rw [← hR] at hpc
          have HR : Hid _ := hR
          have hpd : D'[k].1 = p := by rw [← hgp, List.getElem_map]
          obtain ⟨nv, hnv⟩ : ∃ nv, nv = D'[k].2 := ⟨_, rfl⟩
          have hnds := (HAdd.out.own).nds D'[k] (List.getElem_mem hkD)
          rw [← hnv, hpd] at hnds
          obtain ⟨na, nc, rfl⟩ := slice_of hnds
          obtain ⟨nl, hnl⟩ : ∃ nl, nl = p.nd.length := ⟨_, rfl⟩
          rw [← hnl] at hnv
          have HCn : Hid (∀ wx, Below wA.heap.size wA wx → wx.cell? ⟨go, k * 3 + 2, none⟩ = some (.slice na nl nc)) := fun wx hx => by
            have h2 := (HAdd.out.own).next hx
            have hl2 := HAdd.out.len
            rw [← hl2] at h2
            rw [h2.cellN hkD, hnv]
          have HEr : Hid ((lineE (D.map (·.1)) (lnB s fr i)).1 = lineErr R (decide (1024 < m ∨ 64 < nl))) := by
            show _ = _
            rw [HAdd.out.er, ← hR, ← hnl, hm]
          have hnl65 : nl ≤ 65 := by rw [hnl]; exact HAdd.out.nd
          have hwk : IntKind.i64.wrap ((m : Int) - 1) = (k : Int) := by rw [IntKind.wrap_i64]; omega
          have hkm : (k : Int) < (m : Int) := by omega
          have hmL : m ≤ 1025 := by omega
          rw [← hm]
          clear hpk hk24 hge hgp hR hpd hnds hnv hnl hm hkL
          go_wp2_with fail
          refine hpc.mono ?_
          rintro e w9 ⟨z, rfl, hb9⟩
          have HB9 : Hid (Below wA.heap.size wA w9) := hb9
          have HBw9 : Hid (Below w.heap.size w w9) := ((HAdd.out.own).old).trans (hb9.mono ((HAdd.out.own).old).size)
          have hcn := HCn.out w9 hb9
          clear hpc hb9
          rcases packE_cases (((D'.map (·.1)).take k).map Pak.key) p with hbad | hfine
          · rw [← HR.out] at hbad
            have HE50 : Hid (RP (.returned (.tuple #[.slice none 0 0, .int .i64 n, .int .i64 50])) w9) := HRPe.out n 50 (HQ.out.bad hlt HC10.out HS.out (er := 50) (by rw [HEr.out]; exact if_pos hbad) (by decide)) (by decide) w9 HBw9.out
            rcases hbad with hr | hr | hr
            · rw [hr]
              clear hr
              go_wp2
              go_ret3
              exact HE50.out
            · rw [hr]
              clear hr
              go_wp2
              go_ret3
              exact HE50.out
            · rw [hr]
              clear hr
              go_wp2
              go_ret3
              exact HE50.out
          rw [← HR.out] at hfine
          by_cases hfull : 1024 < m ∨ 64 < nl
          · have HE3 : Hid (RP (.returned (.tuple #[.slice none 0 0, .int .i64 n, .int .i64 3])) w9) := HRPe.out n 3 (HQ.out.bad hlt HC10.out HS.out (er := 3) (by
              rw [HEr.out, decide_eq_true hfull]
              unfold lineErr
              rw [if_neg (by omega), if_pos rfl]) (by decide)) (by decide) w9 HBw9.out
            by_cases hm24 : 1024 < m
            · have hm24' : (1024 : Int) < (m : Int) := by omega
              clear hfull
              rcases hfine with hr | hr
              · have hr0 : (R == 0) = false := beqI (by omega)
                have hr13 : (R == 13) = true := by simp [hr]
                rw [hr]
                clear hr hr0 hr13
                go_wp2
                go_ret3
                exact HE3.out
              · rw [hr]
                clear hr
                go_wp2
                go_ret3
                exact HE3.out
            · have hm24' : ¬ (1024 : Int) < (m : Int) := by omega
              have hnl' : (64 : Int) < (nl : Int) := by omega
              clear hfull
              rcases hfine with hr | hr
              · rw [hr]
                clear hr
                go_wp2
                go_ret3
                exact HE3.out
              · rw [hr]
                clear hr
                go_wp2
                go_ret3
                exact HE3.out
          have hm24' : ¬ (1024 : Int) < (m : Int) := by omega
          have hnl' : ¬ (64 : Int) < (nl : Int) := by omega
          have HErr : Hid ((lineE (D.map (·.1)) (lnB s fr i)).1 = R) := by
            show _ = _
            rw [HEr.out, decide_eq_false hfull]
            unfold lineErr
            rw [if_neg (by omega), if_neg (by decide)]
          clear hfull
          rcases hfine with hr | hr
          · have HE13 : Hid (RP (.returned (.tuple #[.slice none 0 0, .int .i64 n, .int .i64 13])) w9) := HRPe.out n 13 (HQ.out.bad hlt HC10.out HS.out (er := 13) (by rw [HErr.out, hr]) (by decide)) (by decide) w9 HBw9.out
            rw [hr]
            clear hr
            go_wp2
            go_ret3
            exact HE13.out
          · have HNx : Hid (PqR w w9 s (i + 1) (i + 1) (n + 1) D' (.slice (some ⟨go, 0, none⟩) m oc)) := by
              have h0 : (lineE (D.map (·.1)) (lnB s fr i)).1 = 0 := by rw [HErr.out, hr]
              have hO := (HAdd.out.own).next HB9.out
              rw [← HM.out] at hO
              exact HQ.out.step hlt HC10.out h0 hO (HAdd.out.st h0)
            have hn1 : n + 1 ≤ 65537 := by have := (HQ.out).nle; have := HS.out; omega
            rw [hr]
            clear hr
            go_wp2
            go_roundw
            case rel => exact ⟨i + 1, i + 1, n + 1, D', by omega, by go_num, by go_num, by go_num, HNx⟩
            case measure => simp [intOf]; omega
        by_cases han : a = ⟨#[110, 101, 101, 100, 115]⟩
        · have HWn : Hid (vb a = wNeed) := by show _ = _; rw [han]; rfl
          subst han
          by_cases hd0 : dl = 0
          · skip
            have HE50 : Hid (RP (.returned (.tuple #[.slice none 0 0, .int .i64 n, .int .i64 50])) w2) := HRPe.out n 50 (HQ.out.bad hlt HC10.out HS.out (er := 50) (by
              have hD : D = [] := List.eq_nil_of_length_eq_zero (by have := HDl.out; omega)
              rw [said_need_lnB HCut.out HWn.out, hD]
              rfl) (by decide)) (by decide) w2 HB2.out
            subst hd0
            go_wp2
            go_ret3
            exact HE50.out
          · skip
            obtain ⟨k, hk⟩ : ∃ k, dl = k + 1 := ⟨dl - 1, by omega⟩
            have hkD : k < D.length := by have := HDl.out; omega
            obtain ⟨gl, rfl⟩ : ∃ gl, la = some ⟨gl, 0, none⟩ := by
              obtain ⟨_, ⟨_, h0⟩ | ⟨g, cap, cur, h1, _⟩⟩ := id (HOw.out).own
              · omega
              · simp only [Value.slice.injEq] at h1
                exact ⟨g, h1.1⟩
            have HOw2 : Hid (OwR w w2 D (.slice (some ⟨gl, 0, none⟩) dl lc)) := HOw.out.next HB12.out
            obtain ⟨q, hq⟩ : ∃ q, q = D[k].1 := ⟨_, rfl⟩
            obtain ⟨nv, hnv⟩ : ∃ nv, nv = D[k].2 := ⟨_, rfl⟩
            have hnds := (HOw2.out).nds D[k] (List.getElem_mem hkD)
            rw [← hnv, ← hq] at hnds
            obtain ⟨na, nc, rfl⟩ := slice_of hnds
            obtain ⟨nl, hnl⟩ : ∃ nl, nl = q.nd.length := ⟨_, rfl⟩
            rw [← hnl] at hnds hnv
            have HNl : Hid (nl = q.nd.length) := hnl
            have HQe : Hid (q = D[k].1) := hq
            have HNv : Hid (Value.slice na nl nc = D[k].2) := hnv
            have hq64 : nl ≤ 64 := by rw [hnl, hq]; exact (HQ.out.few).2 D[k] (List.getElem_mem hkD)
            have HCn : Hid (∀ wx, OwR w wx D (.slice (some ⟨gl, 0, none⟩) dl lc) → wx.cell? ⟨gl, k * 3 + 2, none⟩ = some (.slice na nl nc)) := fun wx hx => by
              rw [HDl.out] at hx
              rw [hx.cellN hkD, hnv]
            have hone := one_nd nm rg w2.drew
            have hr1 := HC1.out
            have hr2 := HC2.out
            have hwk : IntKind.i64.wrap ((dl : Int) - 1) = (k : Int) := by rw [IntKind.wrap_i64]; omega
            have hkn : (k : Int) < (dl : Int) := by omega
            have hd0' : ((dl : Int) == 0) = false := beqI (by omega)
            have hd02 : ¬ (dl : Int) = 0 := by omega
            have HK1 : Hid (dl = k + 1) := hk
            clear hnds hq hnv hnl hk
            go_upto_region 17 with fail
            refine wp_region_late [18] [(0, 0), (0, 1), (0, 2), (0, 3), (0, 4), (0, 5), (0, 6), (0, 7), (0, 8), (0, 9), (0, 10), (0, 11), (0, 12), (0, 13), (1, 14), (1, 15), (2, 16), (0, 17), (1, 18)] (fun wx => wx.cell? ⟨gl, k * 3 + 2, none⟩ = some (.slice na nl nc) ∧ wx.cell? ⟨gw, 1, none⟩ = some (.string nm) ∧ wx.cell? ⟨gw, 2, none⟩ = some (.string rg)) (by kernel_rfl) (by kernel_rfl) ⟨HCn.out _ (HOw2.out.next ((Below.refl _ _).drew)), hr1, hr2⟩ ?_
            refine l_value (some 76) (.slice (some ⟨gl, 0, none⟩) dl lc) rfl rfl (by rfl) (fun wx hw => ?_) ?_
            · go_simp
            simp only [Act.put, List.setIfInBounds_toArray, List.set_cons_zero, List.set_cons_succ]
            refine l_value (some 77) (.int .i64 (k : Int)) rfl rfl (by rfl) (fun wx hw => ?_) ?_
            · go_simp
            simp only [Act.put, List.setIfInBounds_toArray, List.set_cons_zero, List.set_cons_succ]
            refine l_value (some 78) (.slice (some ⟨gl, 0, none⟩) dl lc) rfl rfl (by rfl) (fun wx hw => ?_) ?_
            · go_simp
            simp only [Act.put, List.setIfInBounds_toArray, List.set_cons_zero, List.set_cons_succ]
            refine l_value (some 79) (.int .i64 (k : Int)) rfl rfl (by rfl) (fun wx hw => ?_) ?_
            · go_simp
            simp only [Act.put, List.setIfInBounds_toArray, List.set_cons_zero, List.set_cons_succ]
            refine l_value (some 80) (.pointer (some ⟨gl, k * 3, none⟩)) rfl rfl (by rfl) (fun wx hw => ?_) ?_
            · go_simp
            simp only [Act.put, List.setIfInBounds_toArray, List.set_cons_zero, List.set_cons_succ]
            refine l_value (some 81) (.pointer (some ⟨gl, k * 3 + 2, none⟩)) rfl rfl (by rfl) (fun wx hw => ?_) ?_
            · go_simp
            simp only [Act.put, List.setIfInBounds_toArray, List.set_cons_zero, List.set_cons_succ]
            refine l_value (some 82) (.slice na nl nc) rfl rfl (by rfl) (fun wx hw => ?_) ?_
            · have hc := hw.1
              go_simp
            simp only [Act.put, List.setIfInBounds_toArray, List.set_cons_zero, List.set_cons_succ]
            refine l_value (some 83) (.slice (some ⟨gw, 0, none⟩) 3 gc) rfl rfl (by rfl) (fun wx hw => ?_) ?_
            · go_simp
            simp only [Act.put, List.setIfInBounds_toArray, List.set_cons_zero, List.set_cons_succ]
            refine l_value (some 84) (.pointer (some ⟨gw, 1, none⟩)) rfl rfl (by rfl) (fun wx hw => ?_) ?_
            · go_simp
            simp only [Act.put, List.setIfInBounds_toArray, List.set_cons_zero, List.set_cons_succ]
            refine l_value (some 85) (.string nm) rfl rfl (by rfl) (fun wx hw => ?_) ?_
            · have hc := hw.2.1
              go_simp
            simp only [Act.put, List.setIfInBounds_toArray, List.set_cons_zero, List.set_cons_succ]
            refine l_value (some 86) (.slice (some ⟨gw, 0, none⟩) 3 gc) rfl rfl (by rfl) (fun wx hw => ?_) ?_
            · go_simp
            simp only [Act.put, List.setIfInBounds_toArray, List.set_cons_zero, List.set_cons_succ]
            refine l_value (some 87) (.pointer (some ⟨gw, 2, none⟩)) rfl rfl (by rfl) (fun wx hw => ?_) ?_
            · go_simp
            simp only [Act.put, List.setIfInBounds_toArray, List.set_cons_zero, List.set_cons_succ]
            refine l_value (some 88) (.string rg) rfl rfl (by rfl) (fun wx hw => ?_) ?_
            · have hc := hw.2.2
              go_simp
            simp only [Act.put, List.setIfInBounds_toArray, List.set_cons_zero, List.set_cons_succ]
            refine l_value (some 89) (.agg #[.string nm, .string rg]) rfl rfl (by rfl) (fun wx hw => ?_) ?_
            · go_simp
            simp only [Act.put, List.setIfInBounds_toArray, List.set_cons_zero, List.set_cons_succ]
            obtain ⟨w6, hw6⟩ : ∃ x, x = w2.drew.alloc (.cells #[.string nm, .string rg] 61) := ⟨_, rfl⟩
            have hb6 : Below w2.heap.size w2 w6 := by rw [hw6]; exact ((Below.refl _ _).drew).alloc (Nat.le_refl _) _
            have hc1 : w6.cell? ⟨gw, 1, none⟩ = some (.string nm) := (hb6.cell (p := ⟨gw, 1, none⟩) (World.block_lt_of_cell? _ _ HC1.out)).trans HC1.out
            have hc2 : w6.cell? ⟨gw, 2, none⟩ = some (.string rg) := (hb6.cell (p := ⟨gw, 2, none⟩) (World.block_lt_of_cell? _ _ HC2.out)).trans HC2.out
            have hnew : ∀ j u, (encN ⟨nm, rg⟩)[j]? = some u → w6.cell? ⟨w2.heap.size, 0 + j, none⟩ = some u := fun j u hj => by
              have hr : Row w6 w2.heap.size #[.string nm, .string rg] 61 := by rw [hw6]; exact Row.new w2.drew _ _
              rw [Nat.zero_add, hr.cell j, ← hj]
              exact List.getElem?_toArray
            have HO6 : Hid (OwR w w6 D (.slice (some ⟨gl, 0, none⟩) dl lc)) := HOw2.out.next hb6
            have hown6 : w6.ownsRow w.heap.size 61 2 (.slice na nl nc) nl (flatN q.nd) := by
              have h1 := (HO6.out).nds D[k] (List.getElem_mem hkD)
              rw [HNv.out, HNl.out, HQe.out]
              exact h1
            have hlow6 : w.heap.size ≤ w6.heap.size := (HO6.out).old.size
            refine l_alone (some 90) (.slice (some ⟨w2.heap.size, 0, none⟩) 1 1) w6 rfl rfl (by rfl) (by rw [hw6]; go_simp) (fun _ => ⟨HCn.out w6 HO6.out, hc1, hc2⟩) ?_
            simp only [Act.put, List.setIfInBounds_toArray, List.set_cons_zero, List.set_cons_succ]
            refine l_wp rfl (by rfl) ?_
            refine wp_append_any (some 91) rfl (.tmp 82) (.tmp 90) 42 61 (.agg zeroNd) 2 32 Tryz.underlying42 infoNdz rfl (by decide) rfl w.heap.size (.slice na nl nc) nl (flatN q.nd) rfl hown6 (some ⟨w2.heap.size, 0, none⟩) w2.heap.size 0 1 1 (encN ⟨nm, rg⟩) rfl rfl (fun _ => rfl) hnew (fun u hu => by simp at hu; rcases hu with rfl | rfl <;> rfl) (fun h => nomatch h) (by unfold maxLen; omega) (by omega) hlow6 ?_
            intro v8 w8 ho8 hg8 hd8
            have hg8' := hg8
            have hd8' := hd8
            have ho8' := ho8
            rw [HNv.out] at hg8' hd8'
            rw [HNl.out, HQe.out] at ho8'
            have hO6' := HO6.out
            rw [HDl.out] at hO6'
            obtain ⟨hcr, hfr⟩ := hO6'.mid hkD hg8'
            rw [← HNv.out] at hcr
            have hlt6 : gw < w6.heap.size := World.block_lt_of_cell? _ _ hc1
            have hgne : (Value.slice na nl nc).ownBlock ≠ some gw := fun e => by
              have h1 := (own_block ((HOw.out).nds D[k] (List.getElem_mem hkD)) gw (by rw [← HNv.out]; exact e)).2
              have h2 := HGw.out
              omega
            have hblk : w8.heap[gw]? = w6.heap[gw]? := hg8.block gw hlt6 fun e => hgne e.symm
            have hc18 : w8.cell? ⟨gw, 1, none⟩ = some (.string nm) := (World.cell?_of_block (w := w6) (a := ⟨gw, 1, none⟩) hblk).trans hc1
            have hc28 : w8.cell? ⟨gw, 2, none⟩ = some (.string rg) := (World.cell?_of_block (w := w6) (a := ⟨gw, 2, none⟩) hblk).trans hc2
            have HAdd : Hid (AddAt w (w8.setCell ⟨gl, k * 3 + 2, none⟩ v8) (D.map (·.1)) (lnB s fr i) (D.set k (⟨D[k].1.nm, D[k].1.vr, D[k].1.nd ++ [⟨nm, rg⟩]⟩, v8)) (.slice (some ⟨gl, 0, none⟩) D.length lc) k ⟨D[k].1.nm, D[k].1.vr, D[k].1.nd ++ [⟨nm, rg⟩]⟩) := AddAt.need hO6' HQ.out.good (by rw [← HDl.out]; exact HK1.out) HCut.out HWn.out HSn.out HSr.out ho8' hg8' hd8'
            rw [← HDl.out] at HAdd
            obtain ⟨D', hD'⟩ : ∃ D', D' = D.set k (⟨D[k].1.nm, D[k].1.vr, D[k].1.nd ++ [⟨nm, rg⟩]⟩, v8) := ⟨_, rfl⟩
            rw [← hD'] at HAdd
            obtain ⟨p, hp⟩ : ∃ p, p = (⟨D[k].1.nm, D[k].1.vr, D[k].1.nd ++ [⟨nm, rg⟩]⟩ : Pak) := ⟨_, rfl⟩
            rw [← hp] at HAdd
            obtain ⟨va, vc, rfl⟩ := slice_of ho8
            clear ho8 hg8 hd8 ho8' hg8' hd8' hO6' hgne hblk hc1 hc2 hnew hown6 hb6 hD' hp
            refine ⟨fun _ => ⟨hcr, hc18, hc28⟩, ?_⟩
            simp only [Act.put, List.setIfInBounds_toArray, List.set_cons_zero, List.set_cons_succ]
            refine f_value (some 92) (.pointer (some ⟨gl, k * 3, none⟩)) rfl rfl (by rfl) (fun wx hw => ?_) ?_
            · go_simp
            simp only [Act.put, List.setIfInBounds_toArray, List.set_cons_zero, List.set_cons_succ]
            refine l_value (some 93) (.pointer (some ⟨gl, k * 3 + 2, none⟩)) rfl rfl (by rfl) (fun wx hw => ?_) ?_
            · go_simp
            simp only [Act.put, List.setIfInBounds_toArray, List.set_cons_zero, List.set_cons_succ]
            refine l_store (w8.setCell ⟨gl, k * 3 + 2, none⟩ (.slice va (nl + 1) vc)) rfl rfl (by rfl) (by go_simp) (fun h => by cases h) ?_
            refine l_done ?_
            try simp only [Exit.then]
            obtain ⟨wA, hwA⟩ : ∃ x, x = w8.setCell ⟨gl, k * 3 + 2, none⟩ (.slice va (nl + 1) vc) := ⟨_, rfl⟩
            rw [← hwA] at HAdd
            rw [← hwA]
            obtain ⟨ov', hov⟩ : ∃ o, o = Value.slice (some ⟨gl, 0, none⟩) dl lc := ⟨_, rfl⟩
            rw [← hov] at HAdd
            rw [← hov]
            clear hcr hfr hc18 hc28 hwA hw6 hone hlow6 hlt6 hov hwk hkn HCn HNl HNv HQe hq64 hr1 hr2

            obtain ⟨go, oc, rfl⟩ : ∃ go oc, ov' = .slice (some ⟨go, 0, none⟩) (k + 1) oc := by
              obtain ⟨_, ⟨_, h0⟩ | ⟨g, cap, cur, h1, _⟩⟩ := id (HAdd.out.own).own
              · have := HAdd.out.len
                omega
              · rw [HAdd.out.len] at h1
                exact ⟨g, cap, h1⟩
            have hoc : k + 1 ≤ oc := by
              obtain ⟨_, ⟨h0, _⟩ | ⟨g, cap, cur, h1, _, _, h4, _⟩⟩ := id (HAdd.out.own).own
              · cases h0
              · simp only [Value.slice.injEq] at h1
                have := HAdd.out.len
                omega
            obtain ⟨m, hm⟩ : ∃ m, m = k + 1 := ⟨_, rfl⟩
            have HM : Hid (m = k + 1) := hm
            have hkD : k < D'.length := by have := HAdd.out.len; omega
            have hpk : PacksIn wA (.slice (some ⟨go, 0, none⟩) (D'.map (·.1)).length oc) (D'.map (·.1)) := by
              have h := (HAdd.out.own).packs
              rw [List.length_map, HAdd.out.len]
              exact h
            have hk24 := HAdd.out.k24
            have hge := HAdd.out.get
            have hkL : k < (D'.map (·.1)).length := by rw [List.length_map]; exact hkD
            have hgp : (D'.map (·.1))[k] = p := by rw [List.getElem?_eq_getElem hkL] at hge; exact Option.some.inj hge
            have hpc := refPack_ok k wA hpk HAdd.out.fit (by rw [List.length_map]; have := HAdd.out.len; omega) (fun q hq => by
              obtain ⟨d, hd, rfl⟩ := List.mem_map.1 hq
              have := HAdd.out.few d hd
              omega) hkL
            rw [hgp, List.length_map, HAdd.out.len, ← hm] at hpc
            obtain ⟨R, hR⟩ : ∃ R, R = packE (((D'.map (·.1)).take k).map Pak.key) p := ⟨_, rfl⟩
            rw [← hR] at hpc
            have HR : Hid _ := hR
            have hpd : D'[k].1 = p := by rw [← hgp, List.getElem_map]
            obtain ⟨nv, hnv⟩ : ∃ nv, nv = D'[k].2 := ⟨_, rfl⟩
            have hnds := (HAdd.out.own).nds D'[k] (List.getElem_mem hkD)
            rw [← hnv, hpd] at hnds
            obtain ⟨na, nc, rfl⟩ := slice_of hnds
            obtain ⟨nl, hnl⟩ : ∃ nl, nl = p.nd.length := ⟨_, rfl⟩
            rw [← hnl] at hnv
            have HCn : Hid (∀ wx, Below wA.heap.size wA wx → wx.cell? ⟨go, k * 3 + 2, none⟩ = some (.slice na nl nc)) := fun wx hx => by
              have h2 := (HAdd.out.own).next hx
              have hl2 := HAdd.out.len
              rw [← hl2] at h2
              rw [h2.cellN hkD, hnv]
            have HEr : Hid ((lineE (D.map (·.1)) (lnB s fr i)).1 = lineErr R (decide (1024 < m ∨ 64 < nl))) := by
              show _ = _
              rw [HAdd.out.er, ← hR, ← hnl, hm]
            have hnl65 : nl ≤ 65 := by rw [hnl]; exact HAdd.out.nd
            have hwk : IntKind.i64.wrap ((m : Int) - 1) = (k : Int) := by rw [IntKind.wrap_i64]; omega
            have hkm : (k : Int) < (m : Int) := by omega
            have hmL : m ≤ 1025 := by omega
            rw [← hm]
            clear hpk hk24 hge hgp hR hpd hnds hnv hnl hm hkL
            go_wp2_with fail
            refine hpc.mono ?_
            rintro e w9 ⟨z, rfl, hb9⟩
            have HB9 : Hid (Below wA.heap.size wA w9) := hb9
            have HBw9 : Hid (Below w.heap.size w w9) := ((HAdd.out.own).old).trans (hb9.mono ((HAdd.out.own).old).size)
            have hcn := HCn.out w9 hb9
            clear hpc hb9
            rcases packE_cases (((D'.map (·.1)).take k).map Pak.key) p with hbad | hfine
            · rw [← HR.out] at hbad
              have HE50 : Hid (RP (.returned (.tuple #[.slice none 0 0, .int .i64 n, .int .i64 50])) w9) := HRPe.out n 50 (HQ.out.bad hlt HC10.out HS.out (er := 50) (by rw [HEr.out]; exact if_pos hbad) (by decide)) (by decide) w9 HBw9.out
              rcases hbad with hr | hr | hr
              · rw [hr]
                clear hr
                go_wp2
                go_ret3
                exact HE50.out
              · rw [hr]
                clear hr
                go_wp2
                go_ret3
                exact HE50.out
              · rw [hr]
                clear hr
                go_wp2
                go_ret3
                exact HE50.out
            rw [← HR.out] at hfine
            by_cases hfull : 1024 < m ∨ 64 < nl
            · have HE3 : Hid (RP (.returned (.tuple #[.slice none 0 0, .int .i64 n, .int .i64 3])) w9) := HRPe.out n 3 (HQ.out.bad hlt HC10.out HS.out (er := 3) (by
                rw [HEr.out, decide_eq_true hfull]
                unfold lineErr
                rw [if_neg (by omega), if_pos rfl]) (by decide)) (by decide) w9 HBw9.out
              by_cases hm24 : 1024 < m
              · have hm24' : (1024 : Int) < (m : Int) := by omega
                clear hfull
                rcases hfine with hr | hr
                · have hr0 : (R == 0) = false := beqI (by omega)
                  have hr13 : (R == 13) = true := by simp [hr]
                  rw [hr]
                  clear hr hr0 hr13
                  go_wp2
                  go_ret3
                  exact HE3.out
                · rw [hr]
                  clear hr
                  go_wp2
                  go_ret3
                  exact HE3.out
              · have hm24' : ¬ (1024 : Int) < (m : Int) := by omega
                have hnl' : (64 : Int) < (nl : Int) := by omega
                clear hfull
                rcases hfine with hr | hr
                · rw [hr]
                  clear hr
                  go_wp2
                  go_ret3
                  exact HE3.out
                · rw [hr]
                  clear hr
                  go_wp2
                  go_ret3
                  exact HE3.out
            have hm24' : ¬ (1024 : Int) < (m : Int) := by omega
            have hnl' : ¬ (64 : Int) < (nl : Int) := by omega
            have HErr : Hid ((lineE (D.map (·.1)) (lnB s fr i)).1 = R) := by
              show _ = _
              rw [HEr.out, decide_eq_false hfull]
              unfold lineErr
              rw [if_neg (by omega), if_neg (by decide)]
            clear hfull
            rcases hfine with hr | hr
            · have HE13 : Hid (RP (.returned (.tuple #[.slice none 0 0, .int .i64 n, .int .i64 13])) w9) := HRPe.out n 13 (HQ.out.bad hlt HC10.out HS.out (er := 13) (by rw [HErr.out, hr]) (by decide)) (by decide) w9 HBw9.out
              rw [hr]
              clear hr
              go_wp2
              go_ret3
              exact HE13.out
            · have HNx : Hid (PqR w w9 s (i + 1) (i + 1) (n + 1) D' (.slice (some ⟨go, 0, none⟩) m oc)) := by
                have h0 : (lineE (D.map (·.1)) (lnB s fr i)).1 = 0 := by rw [HErr.out, hr]
                have hO := (HAdd.out.own).next HB9.out
                rw [← HM.out] at hO
                exact HQ.out.step hlt HC10.out h0 hO (HAdd.out.st h0)
              have hn1 : n + 1 ≤ 65537 := by have := (HQ.out).nle; have := HS.out; omega
              rw [hr]
              clear hr
              go_wp2
              go_roundw
              case rel => exact ⟨i + 1, i + 1, n + 1, D', by omega, by go_num, by go_num, by go_num, HNx⟩
              case measure => simp [intOf]; omega
        · skip
          have HE50 : Hid (RP (.returned (.tuple #[.slice none 0 0, .int .i64 n, .int .i64 50])) w2) := HRPe.out n 50 (HQ.out.bad hlt HC10.out HS.out (er := 50) (said_other HCut.out (fun h => hap (word_eq h)) (fun h => han (word_eqn h))) (by decide)) (by decide) w2 HB2.out
          have h1 : ¬ a.toList = [112, 97, 99, 107, 97, 103, 101] := fun h => hap (tolist_pk h)
          have h2 : ¬ a.toList = [110, 101, 101, 100, 115] := fun h => han (tolist_nd h)
          clear hap han
          go_wp2
          go_ret3
          exact HE50.out
      · obtain ⟨b, hb⟩ : ∃ b, b = s[i] := ⟨_, rfl⟩
        have hb' : s[i].toNat = b.toNat := by rw [hb]
        have hbn : b.toNat ≠ 10 := fun e => h10 (by rw [← hb]; exact UInt8.toNat_inj.1 e)
        have hb2 : ((b.toNat : Int) == 10) = false := beqI (by omega)
        have hb3 : ¬ (b.toNat : Int) = 10 := by omega
        have HNx : Hid (PqR w wE s (i + 1) fr n D (.slice la dl lc)) := HQ.out.skip hlt h10
        clear h10 hb
        go_wp2
        go_roundw
        case rel => exact ⟨i + 1, fr, n, D, by omega, by go_num, rfl, rfl, HNx⟩
        case measure => simp [intOf]; omega
    · have hlt' : ¬ (i : Int) < (s.size : Int) := by omega
      have his : i = s.size := by omega
      have HFin : Hid (parseI (vb s) = if fr < s.size then ([], n, 50) else (D.map (·.1), 0, 0)) := by
        have h := HQ.out
        rw [his] at h
        exact h.fin HS.out
      by_cases hfs : fr < s.size
      · have hfs' : (fr : Int) < (s.size : Int) := by omega
        have HE : Hid (RP (.returned (.tuple #[.slice none 0 0, .int .i64 n, .int .i64 50])) wE) := HRPe.out n 50 (by rw [HFin.out, if_pos hfs]) (by decide) wE (HOw.out).old
        clear hfs his
        go_wp2
        go_ret3
        exact HE.out
      · have hfs' : ¬ (fr : Int) < (s.size : Int) := by omega
        have HE : Hid (RP (.returned (.tuple #[.slice la dl lc, .int .i64 0, .int .i64 0])) wE) := HRPo.out D _ wE (by rw [HFin.out, if_neg hfs]) HOw.out
        clear hfs his
        go_wp2
        go_ret3
        exact HE.out
end Go.Proofs.YtkbhckjpmgkgjaaGreatDoor
namespace Go.Proofs.YtkbhckjpmgkgjaaGreatDoor
open Go.RowKit

theorem nil_packs (w : World) : PacksIn w (.slice none 0 0) [] := ⟨none, 0, 0, 0, rfl, Nat.le_refl _, fun h => absurd h (Nat.lt_irrefl _), fun _ => rfl, fun _ hi => absurd hi (Nat.not_lt_zero _)⟩
theorem parse_few (l : By) : (parseI l).1.length ≤ 1024 ∧ ∀ p ∈ (parseI l).1, p.nd.length ≤ 64 := by
  by_cases h : (parseI l).2.2 = 0
  · exact (rightL_zero.1 (parse_good h).1).1
  · rw [parse_bad h]
    exact ⟨Nat.zero_le _, fun p hp => by cases hp⟩
theorem pares_told {w w' : World} {l : By} {e : Ending} (h : PaRes w l e w') : ∃ pa pc, e = .returned (.tuple #[.slice pa (parseI l).1.length pc, .int .i64 (parseI l).2.1, .int .i64 (parseI l).2.2]) ∧ PacksIn w' (.slice pa (parseI l).1.length pc) (parseI l).1 ∧ Below w.heap.size w w' := by
  rcases h with ⟨h0, ov, D, rfl, hD, hO⟩ | ⟨h0, rfl, hb⟩
  · obtain ⟨pa, pc, rfl⟩ := slice_of hO.own
    have hp := hO.packs
    rw [hD] at hp
    have hl : D.length = (parseI l).1.length := by rw [← hD, List.length_map]
    rw [hl] at hp ⊢
    refine ⟨pa, pc, ?_, hp, hO.old⟩
    rw [(parse_good h0).2.2, h0]
    rfl
  · refine ⟨none, 0, ?_, ?_, hb⟩
    · rw [parse_bad h0]
      rfl
    · rw [parse_bad h0]
      exact nil_packs w'
set_option maxRecDepth 20000 in
theorem names15b_ok (w : World) : Calls Tryz.prog 10 #[] w fun e w' => e = .returned (.bool true) ∧ w' = w := by
  go_enter Tryz.func10, Tryz.ntmps10
  go_wp2
  go_ret
  exact ⟨rfl, rfl⟩
set_option maxRecDepth 40000 in
set_option maxHeartbeats 16000000 in
theorem law_parses15 (s : ByteArray) (hs : s.size ≤ 140737488355328) (w : World) (hG : GH w) : Calls Tryz.prog 3 #[.string s] w fun e w' => e = .returned (.bool true) ∧ Below w.heap.size w w' := by
  have HG : Hid (GH w) := hG
  clear hG
  by_cases h4 : 4000 < s.size
  · have h4' : (4000 : Int) < (s.size : Int) := by omega
    by_cases h6 : s.size ≤ 65536
    · have h6' : (s.size : Int) ≤ 65536 := by omega
      have h4'' : (4000 : Int) ≤ (s.size : Int) := by omega
      obtain ⟨t, ht⟩ : ∃ t, t = s.extract 0 4000 := ⟨_, rfl⟩
      have ht' := ht.symm
      have hts : t.size ≤ 140737488355328 := by rw [ht, ByteArray.size_extract]; omega
      clear ht h4 h6
      go_enter Tryz.func3, Tryz.ntmps3
      have hp1 := indexParse_ok t w hts HG.out
      obtain ⟨L, hL⟩ : ∃ L, L = (parseI (vb t)).1 := ⟨_, rfl⟩
      obtain ⟨at', hat⟩ : ∃ a, a = (parseI (vb t)).2.1 := ⟨_, rfl⟩
      obtain ⟨er, her⟩ : ∃ e, e = (parseI (vb t)).2.2 := ⟨_, rfl⟩
      have HPp : Hid (∀ wa e wb, PaRes wa (vb t) e wb → ∃ pa pc, e = .returned (.tuple #[.slice pa L.length pc, .int .i64 at', .int .i64 er]) ∧ PacksIn wb (.slice pa L.length pc) L ∧ Below wa.heap.size wa wb) := fun wa e wb h => by
        rw [hL, hat, her]
        exact pares_told h
      have HLf : Hid (L.length ≤ 1024 ∧ ∀ p ∈ L, p.nd.length ≤ 64) := by show _ ∧ _; rw [hL]; exact parse_few _
      clear hL hat her
      go_wp2_with fail
      refine hp1.mono ?_
      rintro e w2 h2
      obtain ⟨pa, pc, rfl, hpk, hb2⟩ := HPp.out w e w2 h2
      have HPk : Hid (PacksIn w2 (.slice pa L.length pc) L) := hpk
      have HB2 : Hid (Below w.heap.size w w2) := hb2
      have hp2 := refParseI_ok t w2 hts
      clear hp1 h2 hpk hb2
      go_wp2_with fail
      refine hp2.mono ?_
      rintro e w3 h3
      obtain ⟨qa, qc, rfl, hqk, hb3⟩ := HPp.out w2 e w3 h3
      have HB3 : Hid (Below w.heap.size w w3) := HB2.out.trans (hb3.mono HB2.out.size)
      have hsame := refSame_ok w3 (HPk.out.keep (Nat.le_refl _) hb3) hqk (by have := HLf.out.1; omega) (fun p hp => by have := HLf.out.2 p hp; omega)
      clear hp2 h3 hqk hb3
      go_wp2_with fail
      refine hsame.mono ?_
      rintro e w4 ⟨rfl, hb4⟩
      have HB4 : Hid (Below w.heap.size w w4) := HB3.out.trans (hb4.mono HB3.out.size)
      have hna := names15b_ok w4
      clear hsame hb4
      go_wp2_with fail
      refine hna.mono ?_
      rintro e w5 ⟨rfl, hw5⟩
      rw [hw5]
      clear hw5 hna
      go_wp2
      go_ret
      exact ⟨rfl, HB4.out⟩
    · have h6' : ¬ (s.size : Int) ≤ 65536 := by omega
      obtain ⟨t, rfl⟩ : ∃ t, t = s := ⟨_, rfl⟩
      have hts := hs
      clear h4 h6
      go_enter Tryz.func3, Tryz.ntmps3
      have hp1 := indexParse_ok t w hts HG.out
      obtain ⟨L, hL⟩ : ∃ L, L = (parseI (vb t)).1 := ⟨_, rfl⟩
      obtain ⟨at', hat⟩ : ∃ a, a = (parseI (vb t)).2.1 := ⟨_, rfl⟩
      obtain ⟨er, her⟩ : ∃ e, e = (parseI (vb t)).2.2 := ⟨_, rfl⟩
      have HPp : Hid (∀ wa e wb, PaRes wa (vb t) e wb → ∃ pa pc, e = .returned (.tuple #[.slice pa L.length pc, .int .i64 at', .int .i64 er]) ∧ PacksIn wb (.slice pa L.length pc) L ∧ Below wa.heap.size wa wb) := fun wa e wb h => by
        rw [hL, hat, her]
        exact pares_told h
      have HLf : Hid (L.length ≤ 1024 ∧ ∀ p ∈ L, p.nd.length ≤ 64) := by show _ ∧ _; rw [hL]; exact parse_few _
      clear hL hat her
      go_wp2_with fail
      refine hp1.mono ?_
      rintro e w2 h2
      obtain ⟨pa, pc, rfl, hpk, hb2⟩ := HPp.out w e w2 h2
      have HPk : Hid (PacksIn w2 (.slice pa L.length pc) L) := hpk
      have HB2 : Hid (Below w.heap.size w w2) := hb2
      have hp2 := refParseI_ok t w2 hts
      clear hp1 h2 hpk hb2
      go_wp2_with fail
      refine hp2.mono ?_
      rintro e w3 h3
      obtain ⟨qa, qc, rfl, hqk, hb3⟩ := HPp.out w2 e w3 h3
      have HB3 : Hid (Below w.heap.size w w3) := HB2.out.trans (hb3.mono HB2.out.size)
      have hsame := refSame_ok w3 (HPk.out.keep (Nat.le_refl _) hb3) hqk (by have := HLf.out.1; omega) (fun p hp => by have := HLf.out.2 p hp; omega)
      clear hp2 h3 hqk hb3
      go_wp2_with fail
      refine hsame.mono ?_
      rintro e w4 ⟨rfl, hb4⟩
      have HB4 : Hid (Below w.heap.size w w4) := HB3.out.trans (hb4.mono HB3.out.size)
      have hna := names15b_ok w4
      clear hsame hb4
      go_wp2_with fail
      refine hna.mono ?_
      rintro e w5 ⟨rfl, hw5⟩
      rw [hw5]
      clear hw5 hna
      go_wp2
      go_ret
      exact ⟨rfl, HB4.out⟩
  · have h4' : ¬ (4000 : Int) < (s.size : Int) := by omega
    obtain ⟨t, rfl⟩ : ∃ t, t = s := ⟨_, rfl⟩
    have hts := hs
    clear h4
    go_enter Tryz.func3, Tryz.ntmps3
    have hp1 := indexParse_ok t w hts HG.out
    obtain ⟨L, hL⟩ : ∃ L, L = (parseI (vb t)).1 := ⟨_, rfl⟩
    obtain ⟨at', hat⟩ : ∃ a, a = (parseI (vb t)).2.1 := ⟨_, rfl⟩
    obtain ⟨er, her⟩ : ∃ e, e = (parseI (vb t)).2.2 := ⟨_, rfl⟩
    have HPp : Hid (∀ wa e wb, PaRes wa (vb t) e wb → ∃ pa pc, e = .returned (.tuple #[.slice pa L.length pc, .int .i64 at', .int .i64 er]) ∧ PacksIn wb (.slice pa L.length pc) L ∧ Below wa.heap.size wa wb) := fun wa e wb h => by
      rw [hL, hat, her]
      exact pares_told h
    have HLf : Hid (L.length ≤ 1024 ∧ ∀ p ∈ L, p.nd.length ≤ 64) := by show _ ∧ _; rw [hL]; exact parse_few _
    clear hL hat her
    go_wp2_with fail
    refine hp1.mono ?_
    rintro e w2 h2
    obtain ⟨pa, pc, rfl, hpk, hb2⟩ := HPp.out w e w2 h2
    have HPk : Hid (PacksIn w2 (.slice pa L.length pc) L) := hpk
    have HB2 : Hid (Below w.heap.size w w2) := hb2
    have hp2 := refParseI_ok t w2 hts
    clear hp1 h2 hpk hb2
    go_wp2_with fail
    refine hp2.mono ?_
    rintro e w3 h3
    obtain ⟨qa, qc, rfl, hqk, hb3⟩ := HPp.out w2 e w3 h3
    have HB3 : Hid (Below w.heap.size w w3) := HB2.out.trans (hb3.mono HB2.out.size)
    have hsame := refSame_ok w3 (HPk.out.keep (Nat.le_refl _) hb3) hqk (by have := HLf.out.1; omega) (fun p hp => by have := HLf.out.2 p hp; omega)
    clear hp2 h3 hqk hb3
    go_wp2_with fail
    refine hsame.mono ?_
    rintro e w4 ⟨rfl, hb4⟩
    have HB4 : Hid (Below w.heap.size w w4) := HB3.out.trans (hb4.mono HB3.out.size)
    have hna := names15b_ok w4
    clear hsame hb4
    go_wp2_with fail
    refine hna.mono ?_
    rintro e w5 ⟨rfl, hw5⟩
    rw [hw5]
    clear hw5 hna
    go_wp2
    go_ret
    exact ⟨rfl, HB4.out⟩
end Go.Proofs.YtkbhckjpmgkgjaaGreatDoor
