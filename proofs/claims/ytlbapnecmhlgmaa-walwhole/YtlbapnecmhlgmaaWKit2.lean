/- Put and Commit in the walk of WalWhole. -/
import Derived.Test.YtlbapnecmhlgmaaWKit
namespace Go.Proofs.Ytlbapnecmhlgmaa
open Go.RowKit

theorem now_write {D : Dk} (h : D.B = redoAll D.F D.ev D.E.length) (n : Nat) (f : Nat → Int) : (D.write n f).B = redoAll (D.write n f).F (D.write n f).ev (D.write n f).E.length := (Hist.write ⟨h, rfl⟩ n f).now
theorem now_flush {D : Dk} (h : D.B = redoAll D.F D.ev D.E.length) : D.flush.B = redoAll D.flush.F D.flush.ev D.flush.E.length := (Hist.flush ⟨h, rfl⟩).now
theorem now_wrN {D : Dk} (h : D.B = redoAll D.F D.ev D.E.length) (at' : Nat) (L : List Pt) (K : List Nat) : ∀ n, (wrN D at' L K n).B = redoAll (wrN D at' L K n).F (wrN D at' L K n).ev (wrN D at' L K n).E.length
  | 0 => h
  | n + 1 => now_write (now_wrN h at' L K n) _ _
theorem now_doN {D : Dk} (h : D.B = redoAll D.F D.ev D.E.length) (at' : Nat) (K : List Nat) : ∀ n, (doN D at' K n).B = redoAll (doN D at' K n).F (doN D at' K n).ev (doN D at' K n).E.length
  | 0 => h
  | n + 1 => now_write (now_doN h at' K n) _ _
theorem now_com {D : Dk} (h : D.B = redoAll D.F D.ev D.E.length) (at' : Nat) (L : List Pt) (K : List Nat) : (comD D at' L K).B = redoAll D.F (comD D at' L K).ev (comD D at' L K).E.length := by
  have h1 : (hdD D at' L K).B = redoAll (hdD D at' L K).F (hdD D at' L K).ev (hdD D at' L K).E.length := now_flush (now_write (now_flush (now_wrN h at' L K _)) _ _)
  have h2 : (comD D at' L K).B = redoAll (comD D at' L K).F (comD D at' L K).ev (comD D at' L K).E.length := now_flush (now_write (now_flush (now_doN h1 at' K _)) _ _)
  rwa [comD_F] at h2
theorem nums_of {L : List Pt} {K : List Nat} {J : Jn} (hK : KeysOf L K) (hL : L = J.L) (hok : J.ok 12) (h0 : J.at' = 0) (h4 : J.sec = 4) (hne : K ≠ []) : Nums K := by
  subst hL
  have hl := hK.len
  have hf := hok.few
  refine ⟨List.length_pos_iff.2 hne, by omega, fun i j hij hj => ?_, fun i hi => ?_⟩
  · have := List.pairwise_iff_getElem.1 hK.up i j (by omega) hj hij
    rwa [List.getD_eq_getElem?_getD, List.getD_eq_getElem?_getD, List.getElem?_eq_getElem hj, List.getElem?_eq_getElem (show i < K.length by omega)]
  · have hm : K.getD i 0 ∈ J.L.map Pt.k := (hK.mem _).1 (by simp [List.getD, List.getElem?_eq_getElem hi])
    obtain ⟨p, hp, e⟩ := List.mem_map.1 hm
    rw [← e]
    have := hok.puts p hp
    have h1 := this.1
    have h2 := this.2.1
    omega
section
variable {w0 : World} {g g1 c1 g2 c2 gj gm : Nat} {ev : Value} {D : Dk} {J : Jn} {sts : List ByteArray} {ends : List Nat} {sv xv : Value} {w w' : World}
theorem own_one {n s base : Nat} {e : TypeId} {v : Value} {xs : List Value} {L : List Pt} (h : w.ownsRow base e s v n xs) (hm : MapAt w gm L) (hO : One gm w w') : w'.ownsRow base e s v n xs :=
  ownsRow_keep h (fun k hk _ => by
    obtain ⟨_, _, cur, hr⟩ := ownsRow_lt h k hk
    exact hO.block k (hm.row_ne hr).symm)
theorem Wr.put (h : Wr w0 g g1 c1 g2 c2 gj gm ev D J sts ends sv xv w) {L' : List Pt} {w1 : World} (hJ6 : JAt w' w0.heap.size gj gm g { J with L := L' }) (hok6 : ({ J with L := L' } : Jn).ok D.s) (hb : Below w.heap.size w w1) (hJ1 : JAt w1 w0.heap.size gj gm g J) (hO : One gm w1 w') :
    Wr w0 g g1 c1 g2 c2 gj gm ev D { J with L := L' } sts ends sv xv w' := by
  have h1 := h.next hb
  exact ⟨⟨h1.sh.disk.one hJ1.map hO, hJ6, hok6, h.sh.s12, h.sh.at0, h.sh.sec4, h1.sh.old.trans (hO.below hJ1.geM)⟩, own_one h1.rs hJ1.map hO, own_one h1.re hJ1.map hO⟩
theorem Wr.com (h : Wr w0 g g1 c1 g2 c2 gj gm ev D J sts ends sv xv w) {K : List Nat} {ev' : Value} (hD : DiskAt w' w0.heap.size g g1 c1 g2 c2 ev' (comD D J.at' J.L K)) (hJ : JAt w' w0.heap.size gj gm g { J with L := [] }) (hB : Below w0.heap.size w w') (hR : Ro w w') :
    Wr w0 g g1 c1 g2 c2 gj gm ev' (comD D 0 J.L K) { J with L := [] } sts ends sv xv w' := by
  have h0 := h.sh.at0
  rw [h0] at hD
  exact ⟨⟨hD, hJ, ⟨h.sh.ok.lo, h.sh.ok.hi, by rw [comD_s]; exact h.sh.ok.fits, Nat.zero_le _, fun _ h => nomatch h⟩, by rw [comD_s]; exact h.sh.s12, h.sh.at0, h.sh.sec4, h.sh.old.trans hB⟩, ownsRow_ro h.rs hR (by decide) (by decide) (by decide), ownsRow_ro h.re hR (by decide) (by decide) (by decide)⟩
/-- Commit, and what it does to the history. -/
theorem Wr.commit (h : Wr w0 g g1 c1 g2 c2 gj gm ev D J sts ends sv xv w) (hs : Hs D sts ends) (hlen : D.E.length ≤ 400000) :
    Calls Try.prog 15 #[.pointer (some ⟨gj, 0, none⟩)] w fun e w' => e = .returned (.int .i64 0) ∧ ∃ ev' D' J', Hid (Wr w0 g g1 c1 g2 c2 gj gm ev' D' J' sts ends sv xv w') ∧ Hid (D'.E.length ≤ D.E.length + 12) ∧ Hid (Hs D' (sts ++ [shN D'.B 8]) (ends ++ [D'.E.length])) := by
  have hf := h.sh.few
  refine (commit_ro h.sh.disk h.sh.old.size hlen h.sh.jn h.sh.ok (by omega)).mono ?_
  rintro e w' ⟨rfl, K, hK, ⟨rfl, hb⟩ | ⟨hne, ev', hD', hJ', hB', hR'⟩⟩
  · exact ⟨rfl, ev, D, J, h.next hb, (by show _ ≤ _; omega), hs.same⟩
  · have h12 := h.sh.s12
    have hok12 := h.sh.ok
    rw [h12] at hok12
    have hN : Nums K := nums_of hK rfl hok12 h.sh.at0 h.sh.sec4 hne
    have hW := h.com hD' hJ' hB' hR'
    refine ⟨rfl, ev', comD D 0 J.L K, _, hW, ?_, hs.commit J.L K hN ?_ (now_com hs.now 0 J.L K) (comD_F D 0 J.L K)⟩
    · show _ ≤ _
      rw [comD_len]
      have := hN.hi
      omega
    · have := hW.sh.disk.ok.E
      rw [hW.sh.s12] at this
      exact this
end
theorem mod_spec (m : Nat) (z : Int) : ∃ (q : Int) (p : Nat), z.tmod ((m : Int) + 1) = q ∧ -((m : Int) + 1) < q ∧ q < (m : Int) + 1 ∧ (q + m + 1).tmod ((m : Int) + 1) = (p : Int) ∧ p ≤ m := by
  have hl : (0 : Int) < (m : Int) + 1 := by omega
  have h1 : -((m : Int) + 1) < z.tmod ((m : Int) + 1) := by
    have := Int.lt_tmod_of_pos z hl
    omega
  have h2 : z.tmod ((m : Int) + 1) < (m : Int) + 1 := Int.tmod_lt_of_pos z hl
  have h3 : (0 : Int) ≤ z.tmod ((m : Int) + 1) + m + 1 := by omega
  have h4 : (z.tmod ((m : Int) + 1) + m + 1).tmod ((m : Int) + 1) = (z.tmod ((m : Int) + 1) + m + 1) % ((m : Int) + 1) := Int.tmod_eq_emod_of_nonneg h3
  have h5 := Int.emod_nonneg (z.tmod ((m : Int) + 1) + m + 1) (show (m : Int) + 1 ≠ 0 by omega)
  have h6 := Int.emod_lt_of_pos (z.tmod ((m : Int) + 1) + m + 1) hl
  exact ⟨_, ((z.tmod ((m : Int) + 1) + m + 1) % ((m : Int) + 1)).toNat, rfl, h1, h2, by rw [h4]; omega, by omega⟩
theorem own_sl {w : World} {base n s : Nat} {e : TypeId} {v : Value} {xs : List Value} (h : w.ownsRow base e s v n xs) (hn : 0 < n) : ∃ g c cur, v = .slice (some ⟨g, 0, none⟩) n c ∧ Row w g cur e ∧ base ≤ g := by
  obtain ⟨_, ⟨h1, h2⟩ | ⟨g, c, cur, h1, h2, h3, _⟩⟩ := h
  · omega
  · exact ⟨g, c, cur, h1, h3, h2⟩
end Go.Proofs.Ytlbapnecmhlgmaa
