/- My own work: the signs of paths, as a set; the walk of signsOf. -/
import Derived.Test.YtpkbfljoakodoaaDoorSSet
namespace Go.Proofs.YtpkbfljoakodoaaDoor
open Go.RowKit Go.ChangeMaps
open S2 (bl bl_len bl_ex ex_size bl_inj splitB splitV split_ok Tab NTab)

/-- A path's signs. -/
def sgn (p : ByteArray) : List UInt8 := win (bl p) 7
/-- The signs of those texts that are paths. -/
def signsS (ps : List ByteArray) (k : List UInt8) : Bool := ps.any fun p => splitB (bl p) && k == sgn p
theorem signsS_take (ps : List ByteArray) (n : Nat) (h : n < ps.length) (k : List UInt8) : signsS (ps.take (n + 1)) k = (signsS (ps.take n) k || (splitB (bl ps[n]) && k == sgn ps[n])) := by
  unfold signsS
  rw [List.take_succ_eq_append_getElem h, List.any_append]
  simp
theorem below_map {w0 w w' : World} {g : Nat} (h : Below w0.heap.size w0 w) (hg : w.grownBy w' (some g)) (hw : w0.heap.size ≤ g) : Below w0.heap.size w0 w' :=
  h.grown hg h.size (fun k e => by cases e; exact hw)
set_option maxRecDepth 20000 in
set_option maxHeartbeats 2000000 in
/-- signsOf: a new map with the signs of those texts that are paths. -/
theorem signsOf_ok (a : Option Addr) (ps : List ByteArray) (c : Nat) (w : World) (h : StrsAt w a ps c) (hT : Tab w) (hNT : NTab w) :
    Calls Tryd.prog 22 #[.slice a ps.length c] w fun e w' => e = .returned (.map (some w.heap.size)) ∧ (∃ D, SetAt w' w.heap.size ps.length (signsS ps) D) ∧ Below w.heap.size w w' := by
  have hmm := @run_makeMap Tryd.prog
  have hlen := h.len
  unfold big at hlen
  have H0 : Hid (StrsAt w a ps c) := h
  have HT : Hid (Tab w) := hT
  have HN : Hid (NTab w) := hNT
  obtain ⟨L, hL⟩ : ∃ L, L = ps.length := ⟨_, rfl⟩
  rw [← hL] at hlen ⊢
  have HL : Hid _ := hL
  clear h hT hNT hL
  go_enter Tryd.func22, Tryd.ntmps22
  go_wp2
  go_loopw [12] (fun i wr => ∃ (n : Nat) (D' : DataW Unit), i = .int .i64 n ∧ n ≤ L ∧ SetAt wr w.heap.size n (signsS (ps.take n)) D' ∧ Below w.heap.size w wr)
    (fun i _ => L - (intOf i).toNat)
  case atStart => exact ⟨0, _, rfl, Nat.zero_le _, (SetAt.made w).cong (fun k => rfl), (Below.refl _ _).alloc (Nat.le_refl _) _⟩
  case round =>
    obtain ⟨n, D', rfl, hn, hS, hB⟩ := hrel
    have HB : Hid _ := hB
    have HS : Hid _ := hS
    by_cases hlt : n < L
    · have hlt' : n < ps.length := by rw [← HL.out]; exact hlt
      obtain ⟨b, off, ha, hcs⟩ := (H0.out.keep HB.out).ex
      have hc := hcs n hlt'
      obtain ⟨p, hp⟩ : ∃ p, p = ps[n] := ⟨_, rfl⟩
      have hps : p.size ≤ 140737488355328 := by
        have := H0.out.each p (by rw [hp]; exact List.getElem_mem _)
        unfold big at this
        omega
      rw [← hp] at hc
      have ha' := ha (by omega)
      have HP : Hid _ := hp
      subst ha'
      have hSp := split_ok p wr hps (HT.out.below HB.out HT.out.pos) (NTab.keep HN.out HB.out)
      clear hcs hp ha hB hS
      cases hs : splitB (bl p) with
      | false =>
        have e1 : splitV p = .tuple #[.string ⟨#[]⟩, .string ⟨#[]⟩, .int .i64 17] := by unfold splitV; rw [hs]; rfl
        rw [e1] at hSp
        clear e1
        go_wp2_with (go_at_call 32; refine hSp.mono ?_; rintro e w1 ⟨rfl, hb1⟩; have HB1 : Hid _ := hb1; clear hb1 hSp)
        go_roundw
        case rel =>
          have hB := HB.out
          refine ⟨n + 1, D', by go_num, by omega, ?_, hB.trans (HB1.out.mono hB.size)⟩
          have hS1 := HS.out.keep HB1.out
          refine ⟨hS1.own.mono (Nat.le_succ _), fun k => ?_⟩
          rw [hS1.has, signsS_take ps n hlt', ← HP.out, hs]
          simp
        case measure => simp [intOf]; omega
      | true =>
        obtain ⟨q, hq⟩ : ∃ q, q = p.extract 7 39 := ⟨_, rfl⟩
        obtain ⟨q2, hq2⟩ : ∃ q, q = p.extract 40 p.size := ⟨_, rfl⟩
        have e1 : splitV p = .tuple #[.string q, .string q2, .int .i64 0] := by unfold splitV; rw [hs, hq, hq2]; rfl
        rw [e1] at hSp
        have HQ : Hid (bl q = sgn p) := by show _ = _; rw [hq]; exact win_ex p 7
        have hqs : q.size ≤ maxLen := by
          have : q.size ≤ p.size := by rw [hq]; simp; omega
          unfold maxLen
          omega
        have hkey := Go.WideMaps.keyOf_string_mk Tryd.underlying9 hqs
        clear e1 hq hq2 hqs
        go_wp2_with (go_at_call 32; refine hSp.mono ?_; rintro e w1 ⟨rfl, hb1⟩; have HB1 : Hid _ := hb1; clear hSp; obtain ⟨w2, hup, hown2, hgr2⟩ := (HS.out.keep hb1).own.update str_keyed Tryd.underlying55 (by unfold maxLen; omega) hkey unitElem_mk; have H2 : Hid (w2.ownsMap _ _ _ _ _ _ ∧ w1.grownBy w2 _) := ⟨hown2, hgr2⟩; clear hown2 hgr2 hb1)
        go_roundw
        case rel =>
          have hB := HB.out
          have hB1 := hB.trans (HB1.out.mono hB.size)
          refine ⟨n + 1, _, by go_num, by omega, ((HS.out.keep HB1.out).put (bl q) H2.out.1).cong (fun k => ?_), below_map hB1 H2.out.2 (Nat.le_refl _)⟩
          rw [signsS_take ps n hlt', ← HP.out, hs, HQ.out]
          simp
        case measure => simp [intOf]; omega
    · obtain rfl : n = L := by omega
      go_wp2
      go_ret
      refine ⟨rfl, ⟨D', ?_⟩, HB.out⟩
      have hS' := HS.out
      have e := HL.out
      rw [List.take_of_length_le (by omega)] at hS'
      exact hS'
end Go.Proofs.YtpkbfljoakodoaaDoor
