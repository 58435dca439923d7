/- Open behind a power loss; a disk stays where another changes. -/
import Derived.Test.YtlbapnecmhlgmaaWHist
namespace Go.Proofs.Ytlbapnecmhlgmaa
open Go.RowKit

theorem getD_bd {K : List Nat} (h : Nums K) (i : Nat) : K.getD i 0 < 9223372036854775808 := by
  rcases Nat.lt_or_ge i K.length with h1 | h1
  · have := (h.ge i h1).2; omega
  · rw [List.getD_eq_getElem?_getD, List.getElem?_eq_none h1]; decide
theorem doN_F (D : Dk) (at' : Nat) (K : List Nat) : ∀ n, (doN D at' K n).F = D.F
  | 0 => rfl
  | n + 1 => doN_F D at' K n
theorem doD_F (D : Dk) (at' : Nat) (K : List Nat) : (doD D at' K).F = D.F := doN_F D at' K _
theorem wrN_F (D : Dk) (at' : Nat) (L : List Pt) (K : List Nat) : ∀ n, (wrN D at' L K n).F = D.F
  | 0 => rfl
  | n + 1 => wrN_F D at' L K n
theorem comD_F (D : Dk) (at' : Nat) (L : List Pt) (K : List Nat) : (comD D at' L K).F = D.F := (doD_F _ _ _).trans (wrN_F D at' L K _)
/-- What has been opened. -/
structure Opn (T : ByteArray) (D D' : Dk) : Prop where
  s12 : D'.s = 12
  len : D'.E.length ≤ D.E.length + 6
  un : unmarked (secF D'.B 0)
  shows : shN D'.B 8 = T
  half : D.E = [] → D.F = D.B → ∀ klen kf, Rec T (lossF D' (D'.E.length / 2) klen kf)
theorem Opn.rec' {T : ByteArray} {D D' : Dk} (h : Opn T D D') : Rec T D'.B := .inl ⟨h.un, h.shows⟩

theorem open_rec {w : World} {base g1 c1 g2 c2 gd : Nat} {ev : Value} {D : Dk} (hD : DiskAt w base gd g1 c1 g2 c2 ev D) (hbase : base ≤ w.heap.size) (hlen : D.E.length ≤ 1000) (h12 : D.s = 12) (T : ByteArray) (hR : Rec T D.B) :
    Calls Try.prog 10 #[.pointer (some ⟨gd, 0, none⟩), .int .i64 0, .int .i64 4] w fun e w' => ∃ gj ev' D', e = .returned (.tuple #[.pointer (some ⟨gj, 0, none⟩), .int .i64 0]) ∧ Hid (To w w' base gd g1 c1 g2 c2 ev ev' D') ∧ Hid (Fr g2 w w') ∧ Hid (Below base w w') ∧ Hid (Opn T D D') := by
  rcases hR with ⟨hu, hs⟩ | ⟨K, hM⟩
  · refine (open_new hD 0 4 (by omega) (by omega) (by omega) hu).mono ?_
    rintro e w' ⟨gj, gm, rfl, _, hb⟩
    refine ⟨gj, ev, D, rfl, To.after hb (To.refl (hD.below hb (Nat.le_refl _))), Fr.of_below hb, hb.mono hbase, ⟨h12, by omega, hu, hs, fun h1 h2 klen kf => ?_⟩⟩
    show Rec T (afterF D.F D.ev (safeN D.ev (D.E.length / 2)) klen kf (D.E.length / 2))
    rw [h1]
    show Rec T D.F
    rw [h2]
    exact .inl ⟨hu, hs⟩
  · have hn := hM.nums
    have hH : ∀ j, j < 256 → secF D.B 0 j = hdr K j := hM.hdr
    have hlo := hn.lo
    have hhi := hn.hi
    have hw : ∀ i, i < K.length → word (secF D.B 0) (2 + i) = (K.getD i 0 : Nat) := fun i hi => by
      rw [word_congr _ (hdr K) (2 + i) (by omega) hH]
      exact hdrN_word K (getD_bd hn) i K.length hi
    have hc : word (secF D.B 0) 1 = (K.length : Nat) := by
      rw [word_congr _ (hdr K) 1 (by omega) hH]
      exact hdrN_word1 K (by omega) _
    have hL : wordsL (secF D.B 0) K.length = K := by
      apply List.ext_getElem?
      intro i
      rcases Nat.lt_or_ge i K.length with h1 | h1
      · have h2 := wordsL_at (secF D.B 0) K.length i h1
        rw [hw i h1, Int.toNat_natCast, List.getD_eq_getElem?_getD, List.getD_eq_getElem?_getD, List.getElem?_eq_getElem h1, List.getElem?_eq_getElem (by rw [wordsL_len]; exact h1)] at h2
        rw [List.getElem?_eq_getElem h1, List.getElem?_eq_getElem (by rw [wordsL_len]; exact h1)]
        simpa using h2
      · rw [List.getElem?_eq_none h1, List.getElem?_eq_none (by rw [wordsL_len]; exact h1)]
    refine (open_do hD hbase (by omega) 0 4 (by omega) (by omega) (by omega) (hdr_marked K _ hH) K.length hc hlo (by omega) (fun i hi => ⟨?_, ?_, fun h0 => ?_⟩)).mono ?_
    · rw [hw i hi]; have := (hn.ge i hi).2; omega
    · rw [hw i hi]; have := (hn.ge i hi).1; omega
    · rw [hw i hi, hw (i - 1) (by omega)]; have := hn.up (i - 1) i (by omega) hi; omega
    rintro e w' ⟨gj, ev', rfl, hT, hF, hB⟩
    rw [hL] at hT
    have hs : (doD D 0 K).s = 12 := (doD_s D 0 K).trans h12
    have hN := doD_new D K hn
    refine ⟨gj, ev', doD D 0 K, rfl, hT, hF, hB, ⟨hs, by rw [doD_len]; omega, hN.unmarked, hM.all _ hN, fun h1 h2 klen kf => .inr ⟨K, ?_⟩⟩⟩
    show Mk T K (afterF (doD D 0 K).F (doD D 0 K).ev _ klen kf ((doD D 0 K).E.length / 2))
    rw [doD_F]
    refine doD_half (by rw [h2]; exact hM) h1 (fun i hi => ?_) klen kf _ _ (by rw [doD_len, h1]; simp; omega)
    have := ev_ok12 _ hT.disk.ok.E i hi
    rwa [hs] at this

/-- A disk stays where another changes. -/
theorem DiskAt.other {w w' : World} {base g g1 c1 g2 c2 b' q q1 d1 q2 d2 : Nat} {ev ev' : Value} {D D' : Dk} (h : DiskAt w base g g1 c1 g2 c2 ev D) (hX : DiskAt w b' q q1 d1 q2 d2 ev' D') (hc : Chg q q2 ev' w w') (n0 : ev'.ownBlock = none) (n1 : q ≠ g) (n2 : q2 ≠ g1) (n3 : q2 ≠ g2) : DiskAt w' base g g1 c1 g2 c2 ev D := by
  have rq := hX.row
  obtain ⟨_, _, _, _, cq, rq2, _⟩ := ownsRow_slice hX.now
  obtain ⟨_, _, _, _, ca, r1, _⟩ := ownsRow_slice h.first
  obtain ⟨_, _, _, _, cb, r2, _⟩ := ownsRow_slice h.now
  have ne : ∀ k k' C C' t t', Row w k C t → Row w k' C' t' → t ≠ t' → k ≠ k' := fun k k' C C' t t' a1 a2 ht e => by
    subst e
    have := a1.symm.trans a2
    simp at this
    exact ht this.2
  refine h.keep fun k hk => ?_
  rcases hk with rfl | rfl | rfl | hk
  · exact hc.block _ h.row.lt (Ne.symm n1) (ne _ _ _ _ _ _ h.row rq2 (by decide)) (by rw [n0]; exact fun e => nomatch e)
  · exact hc.block _ r1.lt (ne _ _ _ _ _ _ r1 rq (by decide)) (Ne.symm n2) (by rw [n0]; exact fun e => nomatch e)
  · exact hc.block _ r2.lt (ne _ _ _ _ _ _ r2 rq (by decide)) (Ne.symm n3) (by rw [n0]; exact fun e => nomatch e)
  · obtain ⟨h1, _, cur, r3⟩ := ownsRow_lt h.evs k hk
    exact hc.block _ h1 (ne _ _ _ _ _ _ r3 rq (by decide)) (ne _ _ _ _ _ _ r3 rq2 (by decide)) (by rw [n0]; exact fun e => nomatch e)
/-- Rows of other kinds stay. -/
structure Ro (w w' : World) : Prop where
  row : ∀ k C t, Row w k C t → t ≠ 64 → t ≠ 95 → t ≠ 5 → Row w' k C t
theorem Ro.trans {a b c : World} (h : Ro a b) (k : Ro b c) : Ro a c := ⟨fun q C t hr h1 h2 h3 => k.row q C t (h.row q C t hr h1 h2 h3) h1 h2 h3⟩
theorem Ro.of_fr {g2 : Nat} {w w' : World} (h : Fr g2 w w') : Ro w w' := ⟨fun q C t hr h1 h2 h3 => h.row q C t hr h1 h2 (fun e => absurd e h3)⟩
theorem Ro.of_below {w w' : World} (h : Below w.heap.size w w') : Ro w w' := ⟨fun k _ _ hr _ _ _ => (h.block k hr.lt).trans hr⟩
theorem ownsRow_ro {w w' : World} {base n s : Nat} {e : TypeId} {v : Value} {xs : List Value} (h : w.ownsRow base e s v n xs) (hr : Ro w w') (h1 : e ≠ 64) (h2 : e ≠ 95) (h3 : e ≠ 5) : w'.ownsRow base e s v n xs :=
  ownsRow_keep h (fun k hk _ => by
    obtain ⟨_, _, cur, r⟩ := ownsRow_lt h k hk
    exact (hr.row k cur e r h1 h2 h3).trans r.symm)
end Go.Proofs.Ytlbapnecmhlgmaa
