/- My own work: the document's Solution. My own work: the document's Check. My own work: the walk of solves. My own work: the walk of solves. My own work: the program's Check. My own work: Choices, as far as few asks; few. My own work: the law ResolveChecks. -/
import Derived.Test.YtkbhckjpmgkgjaaGreatDoorXK
import Derived.Test.YtkbhckjpmgkgjaaGreatDoorXE
import Derived.Test.YtkbhckjpmgkgjaaGreatDoorPermA
namespace Go.Proofs.YtkbhckjpmgkgjaaGreatDoor
open Go.RowKit

/-- What holds of the names that were led to. -/
structure LdI (L : List Pak) (W P : List Ned) (S : List ByteArray) (i : Nat) : Prop where
  a : ∀ s ∈ S, ∃ n, NeedIn L W P n ∧ n.nm = s ∧ metP P n
  w : ∀ n ∈ W, metP P n ∧ n.nm ∈ S
  nd : S.Nodup
  c : ∀ s ∈ S.take i, ∀ q p, pickOf P s = some q → packOf L q.key = some p → ∀ m ∈ p.nd, metP P m ∧ m.nm ∈ S
theorem LdI.few {L : List Pak} {W P : List Ned} {S : List ByteArray} {i : Nat} (h : LdI L W P S i) : S.length ≤ P.length := by
  have h1 := nodup_le S (P.map Ned.nm) h.nd fun s hs => by
    obtain ⟨n, _, he, hm⟩ := h.a s hs
    rw [← he]
    exact met_name hm
  simpa using h1
theorem LdI.more {L : List Pak} {W P : List Ned} {S : List ByteArray} {i : Nat} (h : LdI L W P S i) (hi : i ≤ S.length) {n : Ned} (hn : NeedIn L W P n) (hm : metP P n) (hx : n.nm ∉ S) : LdI L W P (S ++ [n.nm]) i := by
  refine ⟨fun s hs => ?_, fun m hmm => ⟨(h.w m hmm).1, List.mem_append_left _ (h.w m hmm).2⟩, ?_, fun s hs q p hq hp m hmm => ?_⟩
  · rcases List.mem_append.1 hs with hs | hs
    · exact h.a s hs
    · exact ⟨n, hn, (List.mem_singleton.1 hs).symm, hm⟩
  · rw [List.nodup_append]
    refine ⟨h.nd, List.nodup_cons.2 ⟨List.not_mem_nil, List.nodup_nil⟩, fun x hx1 y hy e => hx ?_⟩
    rw [← List.mem_singleton.1 hy, ← e]
    exact hx1
  · rw [List.take_append_of_le_length hi] at hs
    obtain ⟨k1, k2⟩ := h.c s hs q p hq hp m hmm
    exact ⟨k1, List.mem_append_left _ k2⟩
theorem LdI.next {L : List Pak} {W P : List Ned} {S : List ByteArray} {i : Nat} (h : LdI L W P S i) (hi : i < S.length) {s : ByteArray} (hs : s = S[i]) {q : Ned} {p : Pak} (hq : pickOf P s = some q) (hp : packOf L q.key = some p) (hall : ∀ m ∈ p.nd, metP P m ∧ m.nm ∈ S) : LdI L W P S (i + 1) := by
  refine ⟨h.a, h.w, h.nd, fun t ht q' p' hq' hp' m hm => ?_⟩
  rw [List.take_succ_eq_append_getElem hi] at ht
  rcases List.mem_append.1 ht with ht | ht
  · exact h.c t ht q' p' hq' hp' m hm
  · rw [List.mem_singleton.1 ht, ← hs, hq] at hq'
    cases hq'
    rw [hp] at hp'
    cases hp'
    exact hall m hm
theorem LdI.ends {L : List Pak} {W P : List Ned} {S : List ByteArray} {i : Nat} (h : LdI L W P S i) (hi : S.length ≤ i) : solB L W P = decide (S.length = P.length) := by
  have hT : S.take i = S := List.take_of_length_le hi
  have hall : ∀ n, NeedIn L W P n → metP P n ∧ n.nm ∈ S := by
    intro n hn
    induction hn with
    | want hw => exact h.w _ hw
    | @dep n q m p hn hq hp hm ih => exact h.c n.nm (by rw [hT]; exact ih.2) q p hq hp m hm
  have hs := sol_of (L := L) (W := W) (P := P) h.nd (fun s => ⟨fun hs => by
    obtain ⟨n, h1, h2, _⟩ := h.a s hs
    exact ⟨n, h1, h2⟩, fun ⟨n, hn, he⟩ => by rw [← he]; exact (hall n hn).2⟩) (fun n hn => (hall n hn).1)
  unfold solB
  by_cases hh : S.length = P.length
  · rw [decide_eq_true hh]
    exact @decide_eq_true _ (Classical.propDecidable _) (hs.2 hh)
  · rw [decide_eq_false hh]
    exact @decide_eq_false _ (Classical.propDecidable _) fun k => hh (hs.1 k)
theorem met_of {P : List Ned} {n : Ned} (h : metB P n = true) : metP P n := by
  unfold metB at h
  exact @of_decide_eq_true _ (Classical.propDecidable _) h
theorem not_met {P : List Ned} {n : Ned} (h : metB P n = false) : ¬ metP P n := by
  unfold metB at h
  exact @of_decide_eq_false _ (Classical.propDecidable _) h
set_option maxRecDepth 20000 in
set_option maxHeartbeats 4000000 in
theorem needsO_ok {L : List Pak} {pa : Option Addr} {pc : Nat} (s v : ByteArray) (p : Pak) (w0 w : World) (hL : PacksIn w0 (.slice pa L.length pc) L) (h0 : Below w0.heap.size w0 w) (hl : L.length ≤ 140737488355328) (hp : packOf L (s, v) = some p) : Calls Tryz.prog 68 #[.slice pa L.length pc, .agg #[.string s, .string v]] w fun e w' => ∃ na nc, e = .returned (.slice na p.nd.length nc) ∧ (∀ wx, Below w0.heap.size w0 wx → NeedsIn wx (.slice na p.nd.length nc) p.nd) ∧ Below w.heap.size w w' := by
  obtain ⟨a1, g, off, c1, he, h2, h3, h4, h5⟩ := hL.ex
  simp only [Value.slice.injEq, true_and] at he
  obtain ⟨rfl, rfl⟩ := he
  have HA1 : Hid (0 < L.length → pa = some ⟨g, off, none⟩) := fun h => (h3 h).1
  have HA5 : Hid (∀ i (h : i < L.length), ∃ na nc, (∀ wx, Below w0.heap.size w0 wx → wx.cell? ⟨g, off + i * 3, none⟩ = some (.string L[i].nm) ∧ wx.cell? ⟨g, off + i * 3 + 1, none⟩ = some (.string L[i].vr) ∧ wx.cell? ⟨g, off + i * 3 + 2, none⟩ = some (.slice na L[i].nd.length nc)) ∧ ∀ wx, Below w0.heap.size w0 wx → NeedsIn wx (.slice na L[i].nd.length nc) L[i].nd) := fun i hi => by
    obtain ⟨nv, k1, k2⟩ := h5 i hi
    have k2' := k2
    obtain ⟨na, _, _, nc, rfl, _⟩ := k2.ex
    exact ⟨na, nc, fun wx hx => ⟨(hx.cell (p := ⟨g, off + i * 3 + 0, none⟩) (h3 (by omega)).2).trans (k1 0 _ rfl), (hx.cell (p := ⟨g, off + i * 3 + 1, none⟩) (h3 (by omega)).2).trans (k1 1 _ rfl), (hx.cell (p := ⟨g, off + i * 3 + 2, none⟩) (h3 (by omega)).2).trans (k1 2 _ rfl)⟩, fun wx hx => k2'.keep (Nat.le_refl _) hx⟩
  have H00 : Hid (Below w0.heap.size w0 w) := h0
  have hr1 : Row (w.alloc (.cells #[.string s, .string v] 82)) w.heap.size #[.string s, .string v] 82 := Row.new _ _ _
  have hb1 : Below w.heap.size w (w.alloc (.cells #[.string s, .string v] 82)) := (Below.refl _ _).alloc (Nat.le_refl _) _
  obtain ⟨w1, hw1⟩ : ∃ x, x = w.alloc (.cells #[.string s, .string v] 82) := ⟨_, rfl⟩
  have hw1' := hw1.symm
  rw [← hw1] at hr1 hb1
  have HR1 : Hid (Row w1 w.heap.size #[.string s, .string v] 82) := hr1
  have HB1 : Hid (Below w.heap.size w w1) := hb1
  obtain ⟨n, hn⟩ : ∃ n, n = L.length := ⟨_, rfl⟩
  have HN : Hid (n = L.length) := hn
  rw [← hn]
  rw [← hn] at h2 hl
  have HP : Hid (packOf L (s, v) = some p) := hp
  obtain ⟨RP, hRP⟩ : ∃ RP : Ending → World → Prop, RP = fun e w' => ∃ na nc, e = .returned (.slice na p.nd.length nc) ∧ (∀ wx, Below w0.heap.size w0 wx → NeedsIn wx (.slice na p.nd.length nc) p.nd) ∧ Below w.heap.size w w' := ⟨_, rfl⟩
  have HRP : Hid (∀ na nc nl w', nl = p.nd.length → (∀ wx, Below w0.heap.size w0 wx → NeedsIn wx (.slice na nl nc) p.nd) → Below w.heap.size w w' → RP (.returned (.slice na nl nc)) w') := fun na nc nl w' h1 h2 h3 => by subst h1; rw [hRP]; exact ⟨na, nc, rfl, h2, h3⟩
  rw [← hRP]
  clear hL h0 h3 h4 h5 hn hp hw1 hr1 hb1 hRP
  go_enter Tryz.func68, Tryz.ntmps68
  go_wp2
  go_loopw [5] (fun iv wi => ∃ i : Nat, i ≤ n ∧ iv = .int .i64 i ∧ Below w1.heap.size w1 wi ∧ Hid (∀ q ∈ L.take i, q.key ≠ (s, v))) (fun iv _ => n - (intOf iv).toNat)
  case atStart => exact ⟨0, Nat.zero_le _, rfl, Below.refl _ _, fun q hq => by simp at hq⟩
  case round =>
    obtain ⟨i, hi, rfl, hb, HI⟩ := hrel
    have HB : Hid (Below w1.heap.size w1 wr) := hb
    have hrr : Row wr w.heap.size #[.string s, .string v] 82 := HR1.out.below hb HR1.out.lt
    have d0 : wr.cell? ⟨w.heap.size, 0, none⟩ = some (.string s) := (hrr.cell 0).trans rfl
    have d1 : wr.cell? ⟨w.heap.size, 1, none⟩ = some (.string v) := (hrr.cell 1).trans rfl
    have HBw : Hid (Below w.heap.size w wr) := HB1.out.trans (hb.mono HB1.out.size)
    clear hb hrr
    by_cases hlt : i < n
    · have hlt' : (i : Int) < (n : Int) := by omega
      have hiL : i < L.length := by have := HN.out; omega
      obtain rfl := HA1.out (by omega)
      obtain ⟨na, nc, hcs, hnin⟩ := HA5.out i hiL
      obtain ⟨c0, c1, -⟩ := hcs wr (H00.out.trans (HBw.out.mono H00.out.size))
      have HCs : Hid (∀ wx, Below w0.heap.size w0 wx → wx.cell? ⟨g, off + i * 3 + 2, none⟩ = some (.slice na L[i].nd.length nc)) := fun wx hx => (hcs wx hx).2.2
      have HNi : Hid (∀ wx, Below w0.heap.size w0 wx → NeedsIn wx (.slice na L[i].nd.length nc) L[i].nd) := hnin
      obtain ⟨nm, hnm⟩ : ∃ x, x = L[i].nm := ⟨_, rfl⟩
      obtain ⟨vr, hvr⟩ : ∃ x, x = L[i].vr := ⟨_, rfl⟩
      rw [← hnm] at c0
      rw [← hvr] at c1
      have HKy : Hid (L[i].key = (nm, vr)) := by show (L[i].nm, L[i].vr) = _; rw [hnm, hvr]
      have HGo : Hid ((nm, vr) ≠ (s, v) → ∀ q ∈ L.take (i + 1), q.key ≠ (s, v)) := fun hne q hq => by
        rw [List.take_succ_eq_append_getElem hiL] at hq
        rcases List.mem_append.1 hq with hq | hq
        · exact HI.out q hq
        · rw [List.mem_singleton.1 hq, HKy.out]; exact hne
      have HBq : Hid (∀ q, Below w1.heap.size w1 (wr.drewN q)) := fun q => HB.out.trans ⟨rfl, rfl, rfl, Nat.le_refl _, fun _ _ => rfl⟩
      clear hcs hnin hnm hvr
      by_cases e1 : nm = s
      · rw [e1] at c0
        by_cases e2 : vr = v
        · rw [e2] at c1
          have HLp : Hid (L[i] = p) := by
            have h := pack_here hiL HI.out (by rw [HKy.out, e1, e2])
            rw [HP.out] at h
            exact (Option.some.inj h).symm
          obtain ⟨nl, hnl⟩ : ∃ nl, nl = L[i].nd.length := ⟨_, rfl⟩
          rw [← hnl] at HCs HNi
          have HNl : Hid (nl = p.nd.length) := by show _ = _; rw [hnl, HLp.out]
          clear e1 e2 hnl
          go_wp2
          go_quiet (fail)
          generalize hwq : wr.drewN _ = wq at *
          have hbq : Below w1.heap.size w1 wq := by rw [← hwq]; exact HBq.out _
          have hbq2 : Below w.heap.size w wq := HB1.out.trans (hbq.mono HB1.out.size)
          have c2 := HCs.out wq (H00.out.trans (hbq2.mono H00.out.size))
          have HF : Hid (RP (.returned (.slice na nl nc)) wq) := HRP.out na nc nl wq HNl.out (fun wx hx => by
            have h := HNi.out wx hx
            rw [HLp.out] at h
            exact h) hbq2
          clear hwq hbq hbq2
          go_wp2
          exact HF.out
        · have hne1 : ¬ vr.toList = v.toList := fun e => e2 (list_eq.1 e)
          have hne2 : (vr.toList == v.toList) = false := by simpa using hne1
          have HI1 : Hid (∀ q ∈ L.take (i + 1), q.key ≠ (s, v)) := HGo.out fun e => e2 (congrArg Prod.snd e)
          clear e1
          go_wp2
          go_quiet (fail)
          go_wp2
          go_roundw
          case rel => exact ⟨i + 1, by omega, by go_num, HBq.out _, HI1.out⟩
          case measure => simp [intOf]; omega
      · have hne1 : ¬ nm.toList = s.toList := fun e => e1 (list_eq.1 e)
        have hne2 : (nm.toList == s.toList) = false := by simpa using hne1
        have HI1 : Hid (∀ q ∈ L.take (i + 1), q.key ≠ (s, v)) := HGo.out fun e => e1 (congrArg Prod.fst e)
        go_wp2
        go_quiet (fail)
        go_wp2
        go_roundw
        case rel => exact ⟨i + 1, by omega, by go_num, HBq.out _, HI1.out⟩
        case measure => simp [intOf]; omega
    · exfalso
      obtain ⟨h1, h2⟩ := packOf_some HP.out
      exact HI.out p (by rw [List.take_of_length_le (by have := HN.out; omega)]; exact h1) h2
/-- A need that the document's own parser takes. -/
def NOkR (n : Ned) : Prop := (∃ C, rangeS (vb n.rg) = some C) ∧ n.rg.size ≤ 4194304
theorem nk_more {w wr w5 : World} {S : List ByteArray} {v v5 : Value} {x : ByteArray} (h : NkR w wr S v) (ho : w5.ownsRow w.heap.size 9 1 v5 (S.length + 1) (S.map Value.string ++ [.string x])) (hg : (wr.alloc (.cells #[.string x] 9)).grownBy w5 v.ownBlock) : NkR w w5 (S ++ [x]) v5 := by
  have h4 := own_belowS h.own ((Below.refl wr.heap.size wr).alloc (Nat.le_refl _) (.cells #[.string x] 9))
  refine ⟨by rw [List.length_append, List.map_append]; exact ho, h.old.trans ((((Below.refl _ _).alloc (Nat.le_refl _) (.cells #[.string x] 9)).mono h.old.size).trans (below_own' hg (by have := h.old.size; simp; omega) fun k hk => (own_lt h4 k hk).1))⟩
set_option maxRecDepth 40000 in
set_option maxHeartbeats 16000000 in
theorem refSol_ok {L : List Pak} {W P : List Ned} {pa wa qa : Option Addr} {pc wc qc : Nat} (w : World) (hL : PacksIn w (.slice pa L.length pc) L) (hl : L.length ≤ 1000) (hW : NeedsIn w (.slice wa W.length wc) W) (hwl : W.length ≤ 64) (hP : NeedsIn w (.slice qa P.length qc) P) (hpl : P.length ≤ 1000) (hV : VrS P) (hs : ∀ q ∈ P, q.rg.size ≤ 140737488355328) (hWo : ∀ n ∈ W, NOkR n) (hLo : ∀ p ∈ L, p.nd.length ≤ 64 ∧ ∀ n ∈ p.nd, NOkR n) (hWn : (W.map Ned.nm).Nodup) (hH : ∀ q ∈ P, ∃ p, packOf L q.key = some p) : Calls Tryz.prog 43 #[.slice pa L.length pc, .slice wa W.length wc, .slice qa P.length qc] w fun e w' => e = .returned (.bool (solB L W P)) ∧ Below w.heap.size w w' := by
  have HLp : Hid (∀ wx, Below w.heap.size w wx → PacksIn wx (.slice pa L.length pc) L) := fun wx hx => hL.keep (Nat.le_refl _) hx
  have HP : Hid (∀ wx, Below w.heap.size w wx → NeedsIn wx (.slice qa P.length qc) P) := fun wx hx => hP.keep (Nat.le_refl _) hx
  have HMt : Hid (∀ n, NOkR n → ∀ wx, Below w.heap.size w wx → Calls Tryz.prog 66 #[.slice qa P.length qc, .agg #[.string n.nm, .string n.rg]] wx fun e w' => e = .returned (.bool (metB P n)) ∧ Below wx.heap.size wx w') := fun n hn wx hx => met_ok n wx (HP.out wx hx) (by omega) hV hs hn.1 hn.2
  have HPk : Hid (∀ s wx, Below w.heap.size w wx → Calls Tryz.prog 67 #[.slice qa P.length qc, .string s] wx fun e w' => e = .returned (pickE P s) ∧ w' = wx) := fun s wx hx => pick_ok s wx (HP.out wx hx) (by omega)
  have HNd : Hid (∀ s v p wx, Below w.heap.size w wx → packOf L (s, v) = some p → Calls Tryz.prog 68 #[.slice pa L.length pc, .agg #[.string s, .string v]] wx fun e w' => ∃ na nc, e = .returned (.slice na p.nd.length nc) ∧ (∀ wy, Below w.heap.size w wy → NeedsIn wy (.slice na p.nd.length nc) p.nd) ∧ Below wx.heap.size wx w') := fun s v p wx hx hp => needsO_ok s v p w wx hL hx (by omega) hp
  have HWo : Hid (∀ n ∈ W, NOkR n) := hWo
  have HLo : Hid (∀ p ∈ L, p.nd.length ≤ 64 ∧ ∀ n ∈ p.nd, NOkR n) := hLo
  have HWn : Hid ((W.map Ned.nm).Nodup) := hWn
  have HH : Hid (∀ q ∈ P, ∃ p, packOf L q.key = some p) := hH
  obtain ⟨a1, g, off, c1, he, h2, h3, h4, h5⟩ := hW.ex
  simp only [Value.slice.injEq, true_and] at he
  obtain ⟨rfl, rfl⟩ := he
  have HW1 : Hid (0 < W.length → wa = some ⟨g, off, none⟩) := fun h => (h3 h).1
  have HW5 : Hid (∀ i (h : i < W.length), ∀ wx, Below w.heap.size w wx → wx.rangeAt g (off + i * 2) (encN W[i])) := fun i hi wx hx j u hj => (hx.cell (p := ⟨g, off + i * 2 + j, none⟩) (h3 (by omega)).2).trans (h5 i hi j u hj)
  obtain ⟨R, hR⟩ : ∃ R, R = solB L W P := ⟨_, rfl⟩
  have HR : Hid (R = solB L W P) := hR
  rw [← hR]
  obtain ⟨n, hn⟩ : ∃ n, n = L.length := ⟨_, rfl⟩
  obtain ⟨m, hm⟩ : ∃ m, m = W.length := ⟨_, rfl⟩
  have HM : Hid (m = W.length) := hm
  obtain ⟨pn, hpn⟩ : ∃ n, n = P.length := ⟨_, rfl⟩
  have HPN : Hid (pn = P.length) := hpn
  rw [← hn, ← hm, ← hpn]
  rw [← hm] at h2 hwl
  rw [← hpn] at hpl HPk HMt
  rw [← hn] at HNd
  have H0 : Hid (NkR w w [] (.slice none 0 0)) := ⟨World.ownsRow_nil _ _ _ _, Below.refl _ _⟩
  clear hL hl hW hP hV hs hWo hLo hWn hH h3 h4 h5 hR hn hm hpn
  go_enter Tryz.func43, Tryz.ntmps43
  go_wp2
  go_loopw [7, 8] (fun sv iv wr => ∃ i : Nat, i ≤ m ∧ iv = .int .i64 i ∧ Hid (NkR w wr ((W.take i).map Ned.nm) sv) ∧ Hid (∀ n ∈ W.take i, metP P n)) (fun _ iv _ => m - (intOf iv).toNat)
  case atStart => exact ⟨0, Nat.zero_le _, rfl, H0, fun n hn => by simp at hn⟩
  case round =>
    obtain ⟨i, hi, rfl, HS, HMe⟩ := hrel
    clear H0
    by_cases hlt : i < m
    · have hlt' : (i : Int) < (m : Int) := by omega
      have hiW : i < W.length := by have := HM.out; omega
      obtain rfl := HW1.out (by omega)
      have hrg := HW5.out i hiW wr HS.out.old
      obtain ⟨d, hd⟩ : ∃ d, d = W[i] := ⟨_, rfl⟩
      rw [← hd] at hrg
      have HDm : Hid (d ∈ W) := by show _ ∈ _; rw [hd]; exact List.getElem_mem _
      have HT : Hid (W.take (i + 1) = W.take i ++ [d]) := by show _ = _; rw [List.take_succ_eq_append_getElem hiW, hd]
      have HRg : Hid (∀ wx, Below w.heap.size w wx → wx.cell? ⟨g, off + i * 2, none⟩ = some (.string d.nm)) := fun wx hx => by rw [hd]; exact HW5.out i hiW wx hx 0 _ rfl
      have hrg : wr.rangeAt g (off + i * 2) [.string d.nm, .string d.rg] := hrg
      have hmt := HMt.out d (HWo.out d HDm.out) wr HS.out.old
      obtain ⟨b, hb⟩ : ∃ b, b = metB P d := ⟨_, rfl⟩
      have HBm : Hid (b = metB P d) := hb
      rw [← hb] at hmt
      clear hd hb
      go_wp2_with (first | refine wpList_load_mid rfl 61 _ rfl g (off + i * 2) rfl _ _ hrg Tryz.underlying61 rfl infoNd ?_ | fail)
      refine hmt.mono ?_
      rintro e w2 ⟨rfl, hb2⟩
      have HS2 : Hid (NkR w w2 ((W.take i).map Ned.nm) u7) := HS.out.next hb2
      clear hmt hb2 hrg
      cases b with
      | false =>
        have HRf : Hid (R = false) := by show _ = _; rw [HR.out]; exact sol_bad (.want HDm.out) (not_met HBm.out.symm)
        have HBf : Hid (Below w.heap.size w w2) := NkR.old HS2.out
        go_wp2
        go_ret
        exact ⟨by rw [HRf.out]; rfl, HBf.out⟩
      | true =>
        have c0 := HRg.out w2 (NkR.old HS2.out)
        obtain ⟨x, hx⟩ : ∃ x, x = d.nm := ⟨_, rfl⟩
        rw [← hx] at c0
        obtain ⟨T, hT⟩ : ∃ T, T = (W.take i).map Ned.nm := ⟨_, rfl⟩
        rw [← hT] at HS2
        have hTl : T.length ≤ 64 := by rw [hT, List.length_map, List.length_take]; omega
        have HTx : Hid ((W.take (i + 1)).map Ned.nm = T ++ [x]) := by show _ = _; rw [HT.out, List.map_append, hT, hx]; rfl
        have HMe2 : Hid (∀ n ∈ W.take (i + 1), metP P n) := fun n hn => by
          rw [HT.out] at hn
          rcases List.mem_append.1 hn with hn | hn
          · exact HMe.out n hn
          · rw [List.mem_singleton.1 hn]; exact met_of HBm.out.symm
        have hown4 : (w2.alloc (.cells #[.string x] 9)).ownsRow w.heap.size 9 1 u7 T.length (T.map Value.string) := own_belowS (NkR.own HS2.out) ((Below.refl _ _).alloc (Nat.le_refl _) _)
        have hlow := (NkR.old HS2.out).size
        obtain ⟨tl, htl⟩ : ∃ tl, tl = T.length := ⟨_, rfl⟩
        have HTl : Hid (tl = T.length) := htl
        rw [← htl] at hown4 hTl
        clear hx hT htl
        go_wp2_with (at_builtin; refine wpList_ap_one rfl (some 36) rfl _ _ rfl w.heap.size u7 tl (T.map Value.string) rfl x rfl w2.heap.size rfl hown4 rfl hlow (by omega) ?_; intro v5 w5 ho5 hg5)
        have HS5 : Hid (NkR w w5 ((W.take (i + 1)).map Ned.nm) v5) := by
          rw [HTx.out]
          exact nk_more HS2.out (by rw [← HTl.out]; exact ho5) hg5
        clear ho5 hg5 hown4 c0
        go_roundw
        case rel => exact ⟨i + 1, by omega, by go_num, HS5, HMe2⟩
        case measure => simp [intOf]; omega
    · have hlt' : ¬ (i : Int) < (m : Int) := by omega
      obtain ⟨S0, hS0⟩ : ∃ S0, S0 = W.map Ned.nm := ⟨_, rfl⟩
      have hti : W.take i = W := List.take_of_length_le (by have := HM.out; omega)
      have HS1 : Hid (NkR w wr S0 u7) := by have h := HS.out; rw [hti, ← hS0] at h; exact h
      have HI0 : Hid (LdI L W P S0 0) := ⟨fun s hs => by
        rw [hS0] at hs
        obtain ⟨n, hn, rfl⟩ := List.mem_map.1 hs
        exact ⟨n, .want hn, rfl, HMe.out n (by rw [hti]; exact hn)⟩, fun n hn => ⟨HMe.out n (by rw [hti]; exact hn), by rw [hS0]; exact List.mem_map.2 ⟨n, hn, rfl⟩⟩, by rw [hS0]; exact HWn.out, fun s hs => by simp at hs⟩
      clear hti hS0 HS HMe
      go_wp2
      clear hlt hlt' hi
      go_loopw [7, 9] (fun sv iv wr => ∃ (j : Nat) (S : List ByteArray), j ≤ S.length ∧ iv = .int .i64 j ∧ Hid (NkR w wr S sv) ∧ Hid (LdI L W P S j)) (fun _ iv _ => pn + 1 - (intOf iv).toNat)
      case atStart => exact ⟨0, S0, Nat.zero_le _, rfl, HS1, HI0⟩
      case round =>
        obtain ⟨j, S, hj, rfl, HS, HI⟩ := hrel
        clear HS1 HI0
        have hfew := HI.out.few
        obtain ⟨sa, sg, sc, hsv, hsc, hsa, _, _, hscell⟩ := slice_form (NkR.own HS.out)
        have HSA : Hid (0 < S.length → sa = some ⟨sg, 0, none⟩) := hsa
        have HSC : Hid (∀ wx, Below wr.heap.size wr wx → ∀ t (h : t < S.length), wx.cell? ⟨sg, t, none⟩ = some (.string S[t])) := fun wx hx t ht => by
          have hlt2 : sg < wr.heap.size := (own_lt (NkR.own HS.out) sg (by rw [hsv, hsa (by omega)]; rfl)).2
          rw [hx.cell (p := ⟨sg, t, none⟩) hlt2, hscell t ht, List.getElem?_map, List.getElem?_eq_getElem ht]
          rfl
        subst hsv
        obtain ⟨sl, hsl⟩ : ∃ sl, sl = S.length := ⟨_, rfl⟩
        have HSl : Hid (sl = S.length) := hsl
        rw [← hsl] at hj hsc HS hfew
        rw [← hsl]
        have hslp : sl ≤ pn := by have := HPN.out; omega
        clear hsl hsa hscell hfew
        by_cases hjs : j < sl
        · have hjs' : (j : Int) < (sl : Int) := by omega
          have hjS : j < S.length := by have := HSl.out; omega
          obtain rfl := HSA.out (by omega)
          have cx := HSC.out wr (Below.refl _ _) j hjS
          obtain ⟨x, hx⟩ : ∃ x, x = S[j] := ⟨_, rfl⟩
          have HX : Hid (x = S[j]) := hx
          rw [← hx] at cx
          obtain ⟨n0, hn0, hne0, hm0⟩ := HI.out.a x (by rw [hx]; exact List.getElem_mem _)
          obtain ⟨q, hq, _⟩ := hm0
          rw [hne0] at hq
          obtain ⟨p, hp⟩ := HH.out q (pickOf_some hq).1
          have hqn := (pickOf_some hq).2
          have HQ : Hid (pickOf P x = some q) := hq
          have HPp : Hid (packOf L q.key = some p) := hp
          have HN0 : Hid (NeedIn L W P n0 ∧ n0.nm = x) := ⟨hn0, hne0⟩
          obtain ⟨hpd1, hpd2⟩ := HLo.out p (packOf_some hp).1
          have HPo : Hid (∀ n ∈ p.nd, NOkR n) := hpd2
          have hpk := HPk.out x wr (NkR.old HS.out)
          rw [pickE_some hq] at hpk
          have hnd := HNd.out x q.rg p wr (NkR.old HS.out) (by rw [← hqn]; exact hp)
          obtain ⟨vr, hvr⟩ : ∃ v, v = q.rg := ⟨_, rfl⟩
          rw [← hvr] at hpk hnd
          clear hx hn0 hne0 hq hp hqn hpd2 hvr
          go_wp2_with fail
          refine hpk.mono ?_
          rintro e w2 ⟨rfl, hw2⟩
          rw [hw2]
          clear hw2 hpk
          go_wp2_with fail
          refine hnd.mono ?_
          rintro e w3 ⟨na, nc, rfl, hnin, hb3⟩
          have HS3 : Hid (NkR w w3 S (.slice (some ⟨sg, 0, none⟩) sl sc)) := HS.out.next hb3
          obtain ⟨a9, ng, noff, c9, he9, hnl9, hn3, _, _⟩ := (hnin w (Below.refl _ _)).ex
          simp only [Value.slice.injEq, true_and] at he9
          obtain ⟨rfl, rfl⟩ := he9
          have HN1 : Hid (0 < p.nd.length → na = some ⟨ng, noff, none⟩) := fun h => (hn3 h).1
          have HN5 : Hid (0 < p.nd.length → ∀ k (h : k < p.nd.length), ∀ wx, Below w.heap.size w wx → wx.rangeAt ng (noff + k * 2) (encN p.nd[k])) := fun h0 k hk wx hx t u ht => by
            obtain ⟨a8, ng8, noff8, c8, he8, _, hn8, _, hn85⟩ := (hnin w (Below.refl _ _)).ex
            simp only [Value.slice.injEq, true_and] at he8
            obtain ⟨rfl, rfl⟩ := he8
            obtain ⟨e1, e2⟩ := hn8 h0
            rw [(hn3 h0).1] at e1
            simp only [Option.some.injEq, Addr.mk.injEq, and_true] at e1
            obtain ⟨rfl, rfl⟩ := e1
            exact (hx.cell (p := ⟨ng, noff + k * 2 + t, none⟩) e2).trans (hn85 k hk t u ht)
          obtain ⟨nl, hnl⟩ : ∃ nl, nl = p.nd.length := ⟨_, rfl⟩
          have HNl : Hid (nl = p.nd.length) := hnl
          rw [← hnl] at hnl9 hpd1 ⊢
          clear hnd hnin hb3 hn3 hnl cx HSC HSA
          go_wp2
          go_loopw [7, 13] (fun sv kv wx => ∃ (k : Nat) (S' : List ByteArray), k ≤ nl ∧ kv = .int .i64 k ∧ Hid (NkR w wx S' sv) ∧ Hid (LdI L W P S' j) ∧ Hid (j < S'.length ∧ S'[j]? = some x) ∧ Hid (∀ m ∈ p.nd.take k, metP P m ∧ m.nm ∈ S')) (fun _ kv _ => nl - (intOf kv).toNat)
          case atStart => exact ⟨0, S, Nat.zero_le _, rfl, HS3, HI, ⟨hjS, by rw [List.getElem?_eq_getElem hjS, HX.out]⟩, fun m hm => by simp at hm⟩
          case round =>
            obtain ⟨k, S', hk, rfl, HS', HI', HJ', HK⟩ := hrel
            clear HS3
            have hfew' := HI'.out.few
            obtain ⟨sa, tg, tc, hsv, htc, hta, _, _, htcell⟩ := slice_form (NkR.own HS'.out)
            subst hsv
            obtain ⟨tl, htl⟩ : ∃ tl, tl = S'.length := ⟨_, rfl⟩
            have HTl : Hid (tl = S'.length) := htl
            rw [← htl] at htc HS' hfew'
            rw [← htl]
            have htlp : tl ≤ 1000 := by have := HPN.out; omega
            obtain rfl := hta (by have := HJ'.out.1; omega)
            clear htl hta htcell hfew' HS
            by_cases hkn : k < nl
            · have hkn' : (k : Int) < (nl : Int) := by omega
              have hkN : k < p.nd.length := by have := HNl.out; omega
              obtain rfl := HN1.out (by omega)
              have hrg := HN5.out (by omega) k hkN wr HS'.out.old
              obtain ⟨d, hd⟩ : ∃ d, d = p.nd[k] := ⟨_, rfl⟩
              rw [← hd] at hrg
              have HDm : Hid (d ∈ p.nd) := by show _ ∈ _; rw [hd]; exact List.getElem_mem _
              have HT : Hid (p.nd.take (k + 1) = p.nd.take k ++ [d]) := by show _ = _; rw [List.take_succ_eq_append_getElem hkN, hd]
              have HRg : Hid (∀ wx, Below w.heap.size w wx → wx.cell? ⟨ng, noff + k * 2, none⟩ = some (.string d.nm)) := fun wx hx => by rw [hd]; exact HN5.out (by omega) k hkN wx hx 0 _ rfl
              have hrg : wr.rangeAt ng (noff + k * 2) [.string d.nm, .string d.rg] := hrg
              have hmt := HMt.out d (HPo.out d HDm.out) wr HS'.out.old
              have HNe : Hid (NeedIn L W P d) := .dep HN0.out.1 (by rw [HN0.out.2]; exact HQ.out) HPp.out HDm.out
              obtain ⟨b, hb⟩ : ∃ b, b = metB P d := ⟨_, rfl⟩
              have HBm : Hid (b = metB P d) := hb
              rw [← hb] at hmt
              clear hd hb
              go_wp2_with (first | refine wpList_load_mid rfl 61 _ rfl ng (noff + k * 2) rfl _ _ hrg Tryz.underlying61 rfl infoNd ?_ | fail)
              refine hmt.mono ?_
              rintro e w2 ⟨rfl, hb2⟩
              have HS2 : Hid (NkR w w2 S' (.slice (some ⟨tg, 0, none⟩) tl tc)) := HS'.out.next hb2
              clear hmt hb2 hrg
              cases b with
              | false =>
                have HRf : Hid (R = false) := by show _ = _; rw [HR.out]; exact sol_bad HNe.out (not_met HBm.out.symm)
                have HBf : Hid (Below w.heap.size w w2) := NkR.old HS2.out
                go_wp2
                go_ret
                exact ⟨by rw [HRf.out]; rfl, HBf.out⟩
              | true =>
                have HMd : Hid (metP P d) := met_of HBm.out.symm
                obtain ⟨y, hy⟩ : ∃ y, y = d.nm := ⟨_, rfl⟩
                have HY : Hid (y = d.nm) := hy
                rw [← hy] at HRg
                have HSc : Hid (∀ wx, Below w2.heap.size w2 wx → ∀ t (h : t < S'.length), wx.cell? ⟨tg, t, none⟩ = some (.string S'[t])) := fun wx hx t ht => by
                  obtain ⟨a7, g7, c7, h71, _, h72, _, _, h73⟩ := slice_form (NkR.own HS2.out)
                  have e7 := h72 (by have := HTl.out; omega)
                  simp only [Value.slice.injEq] at h71
                  rw [← h71.1] at e7
                  simp only [Option.some.injEq, Addr.mk.injEq, and_true] at e7
                  obtain rfl := e7
                  have hlt2 : tg < w2.heap.size := (own_lt (NkR.own HS2.out) tg rfl).2
                  rw [hx.cell (p := ⟨tg, t, none⟩) hlt2, h73 t (by have := HTl.out; omega), List.getElem?_map, List.getElem?_eq_getElem ht]
                  rfl
                clear hy
                go_wp2
                go_loopw [14, 15] (fun bv tv wx => ∃ (t : Nat) (b : Bool), t ≤ tl ∧ tv = .int .i64 t ∧ bv = .bool b ∧ Hid (Below w2.heap.size w2 wx) ∧ Hid (AllNe (!b) (S'.take t) y)) (fun _ tv _ => tl - (intOf tv).toNat)
                case atStart => exact ⟨0, false, Nat.zero_le _, rfl, rfl, Below.refl _ _, ⟨fun _ s hs => by simp at hs, fun _ => rfl⟩⟩
                case round =>
                  obtain ⟨t, b, ht, rfl, rfl, HB, HA⟩ := hrel
                  have HBw : Hid (Below w.heap.size w wr) := (NkR.old HS2.out).trans (HB.out.mono (NkR.old HS2.out).size)
                  have HBq : Hid (∀ q, Below w2.heap.size w2 (wr.drewN q)) := fun q => HB.out.trans ⟨rfl, rfl, rfl, Nat.le_refl _, fun _ _ => rfl⟩
                  by_cases htt : t < tl
                  · have htt' : (t : Int) < (tl : Int) := by omega
                    have htS : t < S'.length := by have := HTl.out; omega
                    have cs := HSc.out wr HB.out t htS
                    have cy := HRg.out wr HBw.out
                    obtain ⟨s, hs⟩ : ∃ s, s = S'[t] := ⟨_, rfl⟩
                    rw [← hs] at cs
                    have HTk : Hid (S'.take (t + 1) = S'.take t ++ [s]) := by show _ = _; rw [List.take_succ_eq_append_getElem htS, hs]
                    clear hs
                    cases b with
                    | true =>
                      have HA2 : Hid (AllNe (!true) (S'.take (t + 1)) y) := ⟨(fun h => by cases h), fun h => by
                        have h1 := HA.out.2 fun z hz => h z (by rw [HTk.out]; exact List.mem_append_left _ hz)
                        cases h1⟩
                      go_wp2
                      go_quiet (fail)
                      go_wp2
                      go_roundw
                      case rel => exact ⟨t + 1, true, by omega, by go_num, rfl, HBq.out _, HA2⟩
                      case measure => simp [intOf]; omega
                    | false =>
                      by_cases he : s = y
                      · have HA2 : Hid (AllNe (!true) (S'.take (t + 1)) y) := ⟨(fun h => by cases h), fun h => absurd he (h s (by rw [HTk.out]; simp))⟩
                        rw [he] at cs
                        clear he
                        go_wp2
                        go_quiet (fail)
                        go_wp2
                        go_roundw
                        case rel => exact ⟨t + 1, true, by omega, by go_num, rfl, HBq.out _, HA2⟩
                        case measure => simp [intOf]; omega
                      · have hne1 : ¬ s.toList = y.toList := fun e => he (list_eq.1 e)
                        have hne2 : (s.toList == y.toList) = false := by simpa using hne1
                        have HA2 : Hid (AllNe (!false) (S'.take (t + 1)) y) := ⟨fun h z hz => by
                          rw [HTk.out] at hz
                          rcases List.mem_append.1 hz with hz | hz
                          · exact HA.out.1 rfl z hz
                          · rw [List.mem_singleton.1 hz]; exact he, fun _ => rfl⟩
                        clear he
                        go_wp2
                        go_quiet (fail)
                        go_wp2
                        go_roundw
                        case rel => exact ⟨t + 1, false, by omega, by go_num, rfl, HBq.out _, HA2⟩
                        case measure => simp [intOf]; omega
                  · have htt' : ¬ (t : Int) < (tl : Int) := by omega
                    have HS9 : Hid (NkR w wr S' (.slice (some ⟨tg, 0, none⟩) tl tc)) := HS2.out.next HB.out
                    have htk : S'.take t = S' := List.take_of_length_le (by have := HTl.out; omega)
                    cases b with
                    | true =>
                      have HIn : Hid (y ∈ S') := by
                        show _ ∈ _
                        by_cases h : y ∈ S'
                        · exact h
                        · have h1 := HA.out.2 fun z hz e => h (by rw [← e]; rw [htk] at hz; exact hz)
                          cases h1
                      have HK2 : Hid (∀ m ∈ p.nd.take (k + 1), metP P m ∧ m.nm ∈ S') := fun m hm => by
                        rw [HT.out] at hm
                        rcases List.mem_append.1 hm with hm | hm
                        · exact HK.out m hm
                        · rw [List.mem_singleton.1 hm]; exact ⟨HMd.out, by rw [← HY.out]; exact HIn.out⟩
                      clear htk
                      go_wp2
                      go_roundw
                      case rel => exact ⟨k + 1, S', by omega, by go_num, HS9, HI', HJ', HK2⟩
                      case measure => simp [intOf]; omega
                    | false =>
                      have HNin : Hid (y ∉ S') := fun h => by
                        have h1 := HA.out.1 rfl y (by rw [htk]; exact h)
                        exact h1 rfl
                      have HI2 : Hid (LdI L W P (S' ++ [y]) j) := by
                        rw [HY.out]
                        exact HI'.out.more (by have := HJ'.out.1; omega) HNe.out HMd.out (by rw [← HY.out]; exact HNin.out)
                      have HJ2 : Hid (j < (S' ++ [y]).length ∧ (S' ++ [y])[j]? = some x) := ⟨by rw [List.length_append]; have := HJ'.out.1; omega, by rw [List.getElem?_append_left HJ'.out.1]; exact HJ'.out.2⟩
                      have HK2 : Hid (∀ m ∈ p.nd.take (k + 1), metP P m ∧ m.nm ∈ S' ++ [y]) := fun m hm => by
                        rw [HT.out] at hm
                        rcases List.mem_append.1 hm with hm | hm
                        · exact ⟨(HK.out m hm).1, List.mem_append_left _ (HK.out m hm).2⟩
                        · rw [List.mem_singleton.1 hm]; exact ⟨HMd.out, by rw [← HY.out]; exact List.mem_append_right _ (List.mem_singleton.2 rfl)⟩
                      have cy := HRg.out wr HBw.out
                      have hown4 : (wr.alloc (.cells #[.string y] 9)).ownsRow w.heap.size 9 1 (.slice (some ⟨tg, 0, none⟩) tl tc) tl (S'.map Value.string) := by
                        have h := own_belowS (NkR.own HS9.out) ((Below.refl _ _).alloc (Nat.le_refl _) (.cells #[.string y] 9))
                        rw [← HTl.out] at h
                        exact h
                      have hlow := (NkR.old HS9.out).size
                      clear htk
                      go_wp2_with (at_builtin; refine wpList_ap_one rfl (some 101) rfl _ _ rfl w.heap.size (.slice (some ⟨tg, 0, none⟩) tl tc) tl (S'.map Value.string) rfl y rfl wr.heap.size rfl hown4 rfl hlow (by omega) ?_; intro v5 w5 ho5 hg5)
                      have HS5 : Hid (NkR w w5 (S' ++ [y]) v5) := nk_more HS9.out (by rw [← HTl.out]; exact ho5) hg5
                      clear ho5 hg5 hown4 cy
                      go_roundw
                      case rel => exact ⟨k + 1, S' ++ [y], by omega, by go_num, HS5, HI2, HJ2, HK2⟩
                      case measure => simp [intOf]; omega
            · have hkn' : ¬ (k : Int) < (nl : Int) := by omega
              have hall : ∀ m ∈ p.nd, metP P m ∧ m.nm ∈ S' := fun m hm => HK.out m (by rw [List.take_of_length_le (by have := HNl.out; omega)]; exact hm)
              have HI2 : Hid (LdI L W P S' (j + 1)) := by
                have hx2 : x = S'[j]'HJ'.out.1 := by
                  have h := HJ'.out.2
                  rw [List.getElem?_eq_getElem HJ'.out.1] at h
                  exact (Option.some.inj h).symm
                exact HI'.out.next HJ'.out.1 hx2 HQ.out HPp.out hall
              have hjt : j + 1 ≤ S'.length := HJ'.out.1
              clear hall
              go_wp2
              go_roundw
              case rel => exact ⟨j + 1, S', hjt, by go_num, HS', HI2⟩
              case measure => simp [intOf]; omega
        · have hjs' : ¬ (j : Int) < (sl : Int) := by omega
          have HEnd : Hid (R = decide (sl = pn)) := by show _ = _; rw [HR.out, HI.out.ends (by have := HSl.out; omega), HSl.out, HPN.out]
          have HBf : Hid (Below w.heap.size w wr) := NkR.old HS.out
          by_cases hee : sl = pn
          · have HRt : Hid (R = true) := by show _ = _; rw [HEnd.out]; exact decide_eq_true hee
            subst hee
            go_wp2
            go_ret
            exact ⟨by rw [HRt.out]; rfl, HBf.out⟩
          · have HRt : Hid (R = false) := by show _ = _; rw [HEnd.out]; exact decide_eq_false hee
            have hne1 : ((sl : Int) == (pn : Int)) = false := by simpa using (fun h : (sl : Int) = (pn : Int) => hee (by omega))
            go_wp2
            go_ret
            exact ⟨by rw [HRt.out]; rfl, HBf.out⟩
end Go.Proofs.YtkbhckjpmgkgjaaGreatDoor
namespace Go.Proofs.YtkbhckjpmgkgjaaGreatDoor
open Go.RowKit

theorem hereB_no {L : List Pak} {P : List Ned} {q : Ned} (hq : q ∈ P) (h : q.key ∉ L.map Pak.key) : hereB L P = false := by
  unfold hereB
  exact @decide_eq_false _ (Classical.propDecidable _) fun k => h (k q hq)
theorem hereB_yes {L : List Pak} {P : List Ned} (h : ∀ q ∈ P, q.key ∈ L.map Pak.key) : hereB L P = true := by
  unfold hereB
  exact @decide_eq_true _ (Classical.propDecidable _) h
theorem right_vers {L : List Pak} (h : rightL L = 0) : ∀ p ∈ L, ∃ x, parseV (vb p.vr) = some x := fun p hp => by
  obtain ⟨B, hB⟩ := packs_mem (rightL_zero.1 h).2 p hp
  exact (rightP_ok (packE_parts hB).1).2.1
theorem right_rgs {L : List Pak} (h : rightL L = 0) : ∀ p ∈ L, ∀ n ∈ p.nd, ∃ C, rangeS (vb n.rg) = some C := fun p hp n hn => by
  obtain ⟨B, hB⟩ := packs_mem (rightL_zero.1 h).2 p hp
  obtain ⟨A, hA⟩ := needs_mem (packE_parts hB).2 n hn
  exact (rightN_ok hA).2.1
/-- Told of the first ones: is it one of them? -/
def InB (b : Bool) (l : List Rl) (x : Rl) : Prop := b = true ↔ x ∈ l
set_option maxRecDepth 40000 in
set_option maxHeartbeats 16000000 in
theorem refCheck_ok {L : List Pak} {W P : List Ned} {pa wa qa : Option Addr} {pc wc qc : Nat} (w : World) (hL : PacksIn w (.slice pa L.length pc) L) (hF : FitR L) (hl : L.length ≤ 1000) (hnd : ∀ p ∈ L, p.nd.length ≤ 140737488355328) (hW : NeedsIn w (.slice wa W.length wc) W) (hFW : FitM W) (hwl : W.length ≤ 1000) (hP : NeedsIn w (.slice qa P.length qc) P) (hpl : P.length ≤ 1000) : Calls Tryz.prog 23 #[.slice pa L.length pc, .slice wa W.length wc, .slice qa P.length qc] w fun e w' => e = .returned (.int .i64 (checkE L W P)) ∧ Below w.heap.size w w' := by
  have hwr := refWrong_ok w hL hF (by omega) hnd hW hFW (by omega)
  obtain ⟨Q, hQ⟩ : ∃ Q, Q = wrongE L W := ⟨_, rfl⟩
  have HQ : Hid (Q = wrongE L W) := hQ
  rw [← hQ] at hwr
  obtain ⟨R, hR⟩ : ∃ R, R = checkE L W P := ⟨_, rfl⟩
  have HR : Hid (R = checkE L W P) := hR
  rw [← hR]
  have HLc : Hid (∀ k (h : k < L.length), ∃ g off, pa = some ⟨g, off, none⟩ ∧ ∀ wx, Below w.heap.size w wx → wx.cell? ⟨g, off + k * 3, none⟩ = some (.string L[k].nm) ∧ wx.cell? ⟨g, off + k * 3 + 1, none⟩ = some (.string L[k].vr)) := fun k hk => by
    obtain ⟨g, off, na, nc, h1, h2, _⟩ := packs_at hL k hk
    exact ⟨g, off, h1, fun wx hx => ⟨(h2 wx hx).1, (h2 wx hx).2.1⟩⟩
  have HLp : Hid (∀ wx, Below w.heap.size w wx → PacksIn wx (.slice pa L.length pc) L) := fun wx hx => hL.keep (Nat.le_refl _) hx
  have HWp : Hid (∀ wx, Below w.heap.size w wx → NeedsIn wx (.slice wa W.length wc) W) := fun wx hx => hW.keep (Nat.le_refl _) hx
  have HPp : Hid (∀ wx, Below w.heap.size w wx → NeedsIn wx (.slice qa P.length qc) P) := fun wx hx => hP.keep (Nat.le_refl _) hx
  have HFR : Hid (FitR L) := hF
  have HFM : Hid (FitM W) := hFW
  obtain ⟨a1, g, off, c1, he, h2, h3, h4, h5⟩ := hP.ex
  simp only [Value.slice.injEq, true_and] at he
  obtain ⟨rfl, rfl⟩ := he
  have HP1 : Hid (0 < P.length → qa = some ⟨g, off, none⟩) := fun h => (h3 h).1
  have HP5 : Hid (∀ i (h : i < P.length), ∀ wx, Below w.heap.size w wx → wx.cell? ⟨g, off + i * 2, none⟩ = some (.string P[i].nm) ∧ wx.cell? ⟨g, off + i * 2 + 1, none⟩ = some (.string P[i].rg)) := fun i hi wx hx => ⟨(hx.cell (p := ⟨g, off + i * 2 + 0, none⟩) (h3 (by omega)).2).trans (h5 i hi 0 _ rfl), (hx.cell (p := ⟨g, off + i * 2 + 1, none⟩) (h3 (by omega)).2).trans (h5 i hi 1 _ rfl)⟩
  obtain ⟨ln, hln⟩ : ∃ n, n = L.length := ⟨_, rfl⟩
  have HLn : Hid (ln = L.length) := hln
  obtain ⟨m, hm⟩ : ∃ m, m = W.length := ⟨_, rfl⟩
  have HM : Hid (m = W.length) := hm
  obtain ⟨n, hn⟩ : ∃ n, n = P.length := ⟨_, rfl⟩
  have HN : Hid (n = P.length) := hn
  rw [← hln] at hwr hl
  rw [← hm] at hwr hwl
  rw [← hn] at hpl h2
  rw [← hln, ← hm, ← hn]
  clear hL hF hnd hW hFW hP h3 h4 h5 hQ hR hln hm hn
  by_cases hz : Q = 0
  case neg =>
    have hzb := beqI hz
    have HRe : Hid (R = Q) := by show _ = _; rw [HR.out]; unfold checkE; rw [← HQ.out, if_pos hz]
    go_enter Tryz.func23, Tryz.ntmps23
    go_wp2_with fail
    refine hwr.mono ?_
    rintro e w1 ⟨rfl, hb1⟩
    have HB1 : Hid (Below w.heap.size w w1) := hb1
    clear hwr hb1
    go_wp2
    go_ret
    exact ⟨by rw [HRe.out]; rfl, HB1.out⟩
  case pos =>
    have HW0 : Hid (wrongE L W = 0) := by show _ = _; rw [← HQ.out]; exact hz
    have HR1 : Hid (R = if riseB P = false then 17 else if hereB L P = false then 14 else if solB L W P = false then 22 else 0) := by show _ = _; rw [HR.out]; unfold checkE; rw [if_neg (fun k => k HW0.out)]
    subst hz
    clear HR HQ
    go_enter Tryz.func23, Tryz.ntmps23
    go_wp2_with fail
    refine hwr.mono ?_
    rintro e w1 ⟨rfl, hb1⟩
    have HBE : Hid (Below w.heap.size w w1) := hb1
    clear hwr hb1
    go_wp2
    go_loopw [8] (fun iv wi => ∃ i : Nat, 1 ≤ i ∧ i ≤ n + 1 ∧ iv = .int .i64 i ∧ Below w1.heap.size w1 wi ∧ Hid (Rises P i)) (fun iv _ => n + 1 - (intOf iv).toNat)
    case atStart => exact ⟨1, Nat.le_refl _, by omega, rfl, Below.refl _ _, fun j _ h => absurd h (by omega)⟩
    case round =>
      obtain ⟨i, hi1, hi, rfl, hb, HI⟩ := hrel
      have HB : Hid (Below w1.heap.size w1 wr) := hb
      have HBw : Hid (Below w.heap.size w wr) := HBE.out.trans (hb.mono HBE.out.size)
      have HBq : Hid (∀ q, Below w1.heap.size w1 (wr.drewN q)) := fun q => HB.out.trans ⟨rfl, rfl, rfl, Nat.le_refl _, fun _ _ => rfl⟩
      clear hb
      by_cases hlt : i < n
      · have hlt' : (i : Int) < (n : Int) := by omega
        have hiP : i < P.length := by have := HN.out; omega
        obtain rfl := HP1.out (by omega)
        obtain ⟨i1, hi1e⟩ : ∃ i1, i1 = i - 1 := ⟨_, rfl⟩
        have hw1 : IntKind.i64.wrap ((i : Int) - 1) = (i1 : Int) := by rw [IntKind.wrap_i64]; omega
        have hi1P : i1 < P.length := by omega
        have hi1n : (i1 : Int) < (n : Int) := by omega
        have c0 := (HP5.out i hiP wr HBw.out).1
        have e0 := (HP5.out i1 hi1P wr HBw.out).1
        obtain ⟨nm, hnm⟩ : ∃ x, x = P[i].nm := ⟨_, rfl⟩
        obtain ⟨nm1, hnm1⟩ : ∃ x, x = P[i1].nm := ⟨_, rfl⟩
        rw [← hnm] at c0
        rw [← hnm1] at e0
        have HNm1 : Hid (∀ (hp : i1 + 1 < P.length), leT P[i1 + 1].nm P[i1].nm = leT nm nm1) := fun hp => by
          have e : i1 + 1 = i := by omega
          simp only [e]
          rw [hnm, hnm1]
        have HGo : Hid (leT nm nm1 = false → Rises P (i + 1)) := fun h => HI.out.go fun _ hp => by
          have h9 := HNm1.out (by omega)
          have e : i - 1 = i1 := by omega
          simp only [e]
          rw [h] at h9
          have e2 : i1 + 1 = i := by omega
          simp only [e2] at h9
          exact h9
        have HNo : Hid (leT nm nm1 = true → R = 17) := fun h => by
          rw [HR1.out, if_pos (riseB_false i1 (by omega) (by rw [HNm1.out]; exact h))]
        clear hnm hnm1 hi1e
        by_cases he : nm = nm1
        · have HRf : Hid (R = 17) := HNo.out (by subst he; unfold leT; simp)
          rw [← he] at e0
          clear he
          go_wp2
          go_quiet (fail)
          go_wp2
          go_ret
          exact ⟨by rw [HRf.out]; rfl, HBE.out.trans ((HBq.out _).mono HBE.out.size)⟩
        · have hne1 : ¬ nm.toList = nm1.toList := fun e => he (list_eq.1 e)
          have hne2 : (nm.toList == nm1.toList) = false := by simpa using hne1
          have HLe : Hid (leT nm nm1 = Op.bytesLess nm.toList nm1.toList) := by show _ = _; unfold leT; rw [hne2, Bool.or_false]
          cases hbl : Op.bytesLess nm.toList nm1.toList with
          | true =>
            have HRf : Hid (R = 17) := HNo.out (HLe.out.trans hbl)
            go_wp2
            go_quiet (fail)
            go_wp2
            go_ret
            exact ⟨by rw [HRf.out]; rfl, HBE.out.trans ((HBq.out _).mono HBE.out.size)⟩
          | false =>
            have HI1 : Hid (Rises P (i + 1)) := HGo.out (HLe.out.trans hbl)
            go_wp2
            go_quiet (fail)
            go_wp2
            go_roundw
            case rel => exact ⟨i + 1, by omega, by omega, by go_num, HBq.out _, HI1.out⟩
            case measure => simp [intOf]; omega
      · have hlt' : ¬ (i : Int) < (n : Int) := by omega
        have HRise : Hid (Rises P P.length) := fun j hj _ => HI.out j hj (by have := HN.out; omega)
        have HR2 : Hid (R = if hereB L P = false then 14 else if solB L W P = false then 22 else 0) := by
          show _ = _
          rw [HR1.out, if_neg (by rw [riseB_true HRise.out]; decide)]
        obtain ⟨wE, rfl⟩ : ∃ x, x = wr := ⟨wr, rfl⟩
        have HBE2 : Hid (Below w.heap.size w wE) := HBw.out
        clear HI HB HBq HBE HBw HR1
        go_wp2
        clear hlt hlt' hi hi1
        go_loopw [9] (fun jv wi => ∃ j : Nat, j ≤ n ∧ jv = .int .i64 j ∧ Hid (Below wE.heap.size wE wi) ∧ Hid (∀ q ∈ P.take j, q.key ∈ L.map Pak.key)) (fun jv _ => n - (intOf jv).toNat)
        case atStart => exact ⟨0, Nat.zero_le _, rfl, Below.refl _ _, fun q hq => by simp at hq⟩
        case round =>
          obtain ⟨j, hj, rfl, HB, HJ⟩ := hrel
          by_cases hjn : j < n
          · have hjn' : (j : Int) < (n : Int) := by omega
            have hjP : j < P.length := by have := HN.out; omega
            obtain rfl := HP1.out (by omega)
            obtain ⟨q, hq⟩ : ∃ q, q = P[j] := ⟨_, rfl⟩
            have HQm : Hid (q ∈ P) := by show _ ∈ _; rw [hq]; exact List.getElem_mem _
            have HTk : Hid (P.take (j + 1) = P.take j ++ [q]) := by show _ = _; rw [List.take_succ_eq_append_getElem hjP, hq]
            obtain ⟨qn, hqn⟩ : ∃ x, x = q.nm := ⟨_, rfl⟩
            obtain ⟨qv, hqv⟩ : ∃ x, x = q.rg := ⟨_, rfl⟩
            have HKey : Hid (q.key = (qn, qv)) := by show (q.nm, q.rg) = _; rw [hqn, hqv]
            have HCq : Hid (∀ wx, Below w.heap.size w wx → wx.cell? ⟨g, off + j * 2, none⟩ = some (.string qn) ∧ wx.cell? ⟨g, off + j * 2 + 1, none⟩ = some (.string qv)) := fun wx hx => by rw [hqn, hqv, hq]; exact HP5.out j hjP wx hx
            obtain ⟨wF, rfl⟩ : ∃ x, x = wr := ⟨wr, rfl⟩
            have HBF : Hid (Below w.heap.size w wF) := HBE2.out.trans (HB.out.mono HBE2.out.size)
            clear hq hqn hqv
            go_wp2
            go_loopw [10, 11] (fun bv kv wi => ∃ (k : Nat) (b : Bool), k ≤ ln ∧ kv = .int .i64 k ∧ bv = .bool b ∧ Hid (Below wF.heap.size wF wi) ∧ Hid (InB b ((L.take k).map Pak.key) (qn, qv))) (fun _ kv _ => ln - (intOf kv).toNat)
            case atStart => exact ⟨0, false, Nat.zero_le _, rfl, rfl, Below.refl _ _, ⟨(fun h => by cases h), fun h => by simp at h⟩⟩
            case round =>
              obtain ⟨k, b, hk, rfl, rfl, HBk, HIn⟩ := hrel
              have HBw : Hid (Below w.heap.size w wr) := HBF.out.trans (HBk.out.mono HBF.out.size)
              have HBq : Hid (∀ q, Below wF.heap.size wF (wr.drewN q)) := fun q => HBk.out.trans ⟨rfl, rfl, rfl, Nat.le_refl _, fun _ _ => rfl⟩
              by_cases hkl : k < ln
              · have hkl' : (k : Int) < (ln : Int) := by omega
                have hkL : k < L.length := by have := HLn.out; omega
                obtain ⟨lg, lo, rfl, hlc⟩ := HLc.out k hkL
                obtain ⟨c0, c1⟩ := hlc wr HBw.out
                obtain ⟨d0, d1⟩ := HCq.out wr HBw.out
                obtain ⟨nm, hnm⟩ : ∃ x, x = L[k].nm := ⟨_, rfl⟩
                obtain ⟨vr, hvr⟩ : ∃ x, x = L[k].vr := ⟨_, rfl⟩
                rw [← hnm] at c0
                rw [← hvr] at c1
                have HTl : Hid ((L.take (k + 1)).map Pak.key = (L.take k).map Pak.key ++ [(nm, vr)]) := by show _ = _; rw [List.take_succ_eq_append_getElem hkL, List.map_append, hnm, hvr]; rfl
                have HNo : Hid ((qn, qv) ≠ (nm, vr) → b = false → InB false ((L.take (k + 1)).map Pak.key) (qn, qv)) := fun hne hb => ⟨(fun h => by cases h), fun h => by
                  rw [HTl.out] at h
                  rcases List.mem_append.1 h with h | h
                  · have := HIn.out.2 h; rw [hb] at this; cases this
                  · exact absurd (List.mem_singleton.1 h) hne⟩
                clear hnm hvr hlc
                cases b with
                | true =>
                  have HI2 : Hid (InB true ((L.take (k + 1)).map Pak.key) (qn, qv)) := ⟨fun _ => by rw [HTl.out]; exact List.mem_append_left _ (HIn.out.1 rfl), fun _ => rfl⟩
                  go_wp2
                  go_quiet (fail)
                  go_wp2
                  go_roundw
                  case rel => exact ⟨k + 1, true, by omega, by go_num, rfl, HBq.out _, HI2⟩
                  case measure => simp [intOf]; omega
                | false =>
                  by_cases e1 : nm = qn
                  · rw [e1] at c0
                    by_cases e2 : vr = qv
                    · have HI2 : Hid (InB true ((L.take (k + 1)).map Pak.key) (qn, qv)) := ⟨fun _ => by rw [HTl.out, e1, e2]; exact List.mem_append_right _ (List.mem_singleton.2 rfl), fun _ => rfl⟩
                      rw [e2] at c1
                      clear e1 e2
                      go_wp2
                      go_quiet (fail)
                      go_wp2
                      go_roundw
                      case rel => exact ⟨k + 1, true, by omega, by go_num, rfl, HBq.out _, HI2⟩
                      case measure => simp [intOf]; omega
                    · have HI2 : Hid (InB false ((L.take (k + 1)).map Pak.key) (qn, qv)) := HNo.out (fun e => e2 (congrArg Prod.snd e).symm) rfl
                      have hne1 : ¬ vr.toList = qv.toList := fun e => e2 (list_eq.1 e)
                      have hne2 : (vr.toList == qv.toList) = false := by simpa using hne1
                      clear e1 e2
                      go_wp2
                      go_quiet (fail)
                      go_wp2
                      go_roundw
                      case rel => exact ⟨k + 1, false, by omega, by go_num, rfl, HBq.out _, HI2⟩
                      case measure => simp [intOf]; omega
                  · have HI2 : Hid (InB false ((L.take (k + 1)).map Pak.key) (qn, qv)) := HNo.out (fun e => e1 (congrArg Prod.fst e).symm) rfl
                    have hne1 : ¬ nm.toList = qn.toList := fun e => e1 (list_eq.1 e)
                    have hne2 : (nm.toList == qn.toList) = false := by simpa using hne1
                    clear e1
                    go_wp2
                    go_quiet (fail)
                    go_wp2
                    go_roundw
                    case rel => exact ⟨k + 1, false, by omega, by go_num, rfl, HBq.out _, HI2⟩
                    case measure => simp [intOf]; omega
              · have hkl' : ¬ (k : Int) < (ln : Int) := by omega
                have hti : L.take k = L := List.take_of_length_le (by have := HLn.out; omega)
                cases b with
                | true =>
                  have HJ2 : Hid (∀ q ∈ P.take (j + 1), q.key ∈ L.map Pak.key) := fun x hx => by
                    rw [HTk.out] at hx
                    rcases List.mem_append.1 hx with hx | hx
                    · exact HJ.out x hx
                    · rw [List.mem_singleton.1 hx, HKey.out]
                      have h := HIn.out.1 rfl
                      rw [hti] at h
                      exact h
                  have HBn : Hid (Below wE.heap.size wE wr) := HB.out.trans (HBk.out.mono HB.out.size)
                  clear hti
                  go_wp2
                  go_roundw
                  case rel => exact ⟨j + 1, by omega, by go_num, HBn, HJ2⟩
                  case measure => simp [intOf]; omega
                | false =>
                  have HR14 : Hid (R = 14) := by
                    show _ = _
                    rw [HR2.out, if_pos (hereB_no HQm.out fun h => by
                      rw [HKey.out] at h
                      have := HIn.out.2 (by rw [hti]; exact h)
                      cases this)]
                  clear hti
                  go_wp2
                  go_ret
                  exact ⟨by rw [HR14.out]; rfl, HBw.out⟩
          · have hjn' : ¬ (j : Int) < (n : Int) := by omega
            have HHere : Hid (∀ q ∈ P, q.key ∈ L.map Pak.key) := fun q hq => HJ.out q (by rw [List.take_of_length_le (by have := HN.out; omega)]; exact hq)
            have HR3 : Hid (R = if solB L W P = false then 22 else 0) := by
              show _ = _
              rw [HR2.out, if_neg (by rw [hereB_yes HHere.out]; decide)]
            have HBf : Hid (Below w.heap.size w wr) := HBE2.out.trans (HB.out.mono HBE2.out.size)
            obtain ⟨z1, z2, z3⟩ := wrong_zero HW0.out
            have hkey : ∀ q ∈ P, ∃ p, packOf L q.key = some p := fun q hq => by
              cases hp : packOf L q.key with
              | none => exact absurd (HHere.out q hq) (packOf_none.1 hp)
              | some p => exact ⟨p, rfl⟩
            have hsol := refSol_ok (L := L) (W := W) (P := P) (pa := pa) (wa := wa) (qa := qa) (pc := pc) (wc := wc) (qc := qc) wr (HLp.out wr HBf.out) (by have := HLn.out; omega) (HWp.out wr HBf.out) z2 (HPp.out wr HBf.out) (by have := HN.out; omega) (fun q hq => by
              obtain ⟨p, hp⟩ := hkey q hq
              obtain ⟨h1, h2⟩ := packOf_some hp
              obtain ⟨x, hx⟩ := right_vers z1 p h1
              have h3 : p.vr = q.rg := congrArg Prod.snd h2
              exact ⟨x, by rw [← h3]; exact hx⟩) (fun q hq => by
              obtain ⟨p, hp⟩ := hkey q hq
              obtain ⟨h1, h2⟩ := packOf_some hp
              have h3 : p.vr = q.rg := congrArg Prod.snd h2
              rw [← h3]
              exact (HFR.out p h1).2.1) (fun n hn => by
              obtain ⟨A, hA⟩ := needs_mem z3 n hn
              exact ⟨(rightN_ok hA).2.1, (HFM.out n hn).2⟩) (fun p hp => ⟨(right_small z1 p hp).2.2.1, fun n hn => ⟨right_rgs z1 p hp n hn, ((HFR.out p hp).2.2 n hn).2⟩⟩) (needs_names z3).1 hkey
            rw [← HLn.out, ← HM.out, ← HN.out] at hsol
            obtain ⟨sb, hsb⟩ : ∃ sb, sb = solB L W P := ⟨_, rfl⟩
            rw [← hsb] at hsol HR3
            clear z1 z2 z3 hkey hsb
            go_wp2_with fail
            refine hsol.mono ?_
            rintro e w4 ⟨rfl, hb4⟩
            have HB4 : Hid (Below w.heap.size w w4) := HBf.out.trans (hb4.mono HBf.out.size)
            clear hsol hb4
            cases sb with
            | false =>
              go_wp2
              go_ret
              exact ⟨by rw [HR3.out]; rfl, HB4.out⟩
            | true =>
              go_wp2
              go_ret
              exact ⟨by rw [HR3.out]; rfl, HB4.out⟩
end Go.Proofs.YtkbhckjpmgkgjaaGreatDoor
namespace Go.Proofs.YtkbhckjpmgkgjaaGreatDoor
open Go.RowKit
open Go.ChangeMaps (setBlock)

/-- What holds in memory ahead of each need. -/
structure SvR (w wr : World) (mr mc : Nat) (C : List PV) (Q : List Ned) (E : List (ByteArray × Value)) (qv : Value) : Prop where
  own : wr.ownsRow w.heap.size 61 2 qv Q.length (flatN Q)
  mp : MpAt keS wr mr E
  ch : ChAt wr mc C
  old : Below w.heap.size w wr
  hm : w.heap.size ≤ mr
theorem SvR.next {w wr w' : World} {mr mc : Nat} {C : List PV} {Q : List Ned} {E : List (ByteArray × Value)} {qv : Value} (h : SvR w wr mr mc C Q E qv) (hb : Below wr.heap.size wr w') : SvR w w' mr mc C Q E qv :=
  ⟨own_below h.own hb, h.mp.next hb, h.ch.next hb, h.old.trans (hb.mono h.old.size), h.hm⟩
theorem findE_app {κ : Type} [DecidableEq κ] {x : κ} (v : Value) : ∀ {E : List (κ × Value)}, x ∉ E.map (·.1) → ∀ i, findE x (E ++ [(x, v)]) i = some (i + E.length, v) := by
  intro E
  induction E with
  | nil => intro _ i; simp [findE]
  | cons y r ih =>
    intro hx i
    obtain ⟨y1, y2⟩ := y
    simp only [List.map_cons, List.mem_cons, not_or] at hx
    show findE x ((y1, y2) :: (r ++ [(x, v)])) i = _
    simp only [findE, if_neg hx.1]
    rw [ih hx.2 (i + 1), List.length_cons, Nat.add_assoc, Nat.add_comm 1]
theorem findE_set {κ : Type} [DecidableEq κ] {x : κ} (v : Value) : ∀ (E : List (κ × Value)) (i k : Nat), k < E.length → (∀ t, t < k → ∀ y, E[t]? = some y → y.1 ≠ x) → findE x (E.set k (x, v)) i = some (i + k, v) := by
  intro E
  induction E with
  | nil => intro i k hk _; exact absurd hk (by simp)
  | cons y r ih =>
    intro i k hk hn
    obtain ⟨y1, y2⟩ := y
    cases k with
    | zero => simp [findE]
    | succ k =>
      have h3 : x ≠ y1 := fun e => hn 0 (by omega) (y1, y2) rfl e.symm
      simp only [List.set_cons_succ, findE, if_neg h3]
      rw [ih (i + 1) k (by simpa using hk) fun t ht y hy => hn (t + 1) (by omega) y (by simpa using hy), Nat.add_assoc, Nat.add_comm 1]
theorem zeroInt (w : World) : (zeroValue 3).run Tryz.prog w = .ok (.int .i64 0) w := by kernel_rfl
theorem SvR.needs {w wr : World} {mr mc : Nat} {C : List PV} {Q : List Ned} {E : List (ByteArray × Value)} {qv : Value} (h : SvR w wr mr mc C Q E qv) : NeedsIn wr qv Q := needs_own h.own
/-- A name that is told as reached once more. -/
theorem SvR.mark {w wr : World} {mr mc : Nat} {C : List PV} {Q : List Ned} {E : List (ByteArray × Value)} {qv : Value} (h : SvR w wr mr mc C Q E qv) (hne : mc ≠ mr) (x : ByteArray) (v : Value) :
    (x ∉ E.map (·.1) ∧ (Instr.lookup 130 (.map (some mr)) (.string x) false).run Tryz.prog wr = .ok (.int .i64 0) wr ∧ ∃ o, (Instr.mapUpdate 130 (.map (some mr)) (.string x) v).run Tryz.prog wr = .ok () (setBlock wr mr o) ∧ (Instr.lookup 130 (.map (some mr)) (.string x) false).run Tryz.prog (setBlock wr mr o) = .ok v (setBlock wr mr o) ∧ SvR w (setBlock wr mr o) mr mc C Q (E ++ [(x, v)]) qv) ∨
    (∃ j u, findE x E 0 = some (j, u) ∧ (Instr.lookup 130 (.map (some mr)) (.string x) false).run Tryz.prog wr = .ok u wr ∧ ∃ o, (Instr.mapUpdate 130 (.map (some mr)) (.string x) v).run Tryz.prog wr = .ok () (setBlock wr mr o) ∧ (Instr.lookup 130 (.map (some mr)) (.string x) false).run Tryz.prog (setBlock wr mr o) = .ok v (setBlock wr mr o) ∧ SvR w (setBlock wr mr o) mr mc C Q (E.set j (x, v)) qv) := by
  have hl := lookup_mp Tryz.underlying130 keyS (.int .i64 0) zeroInt h.mp x false
  obtain ⟨es, clk, h0, _⟩ := h.mp.ex
  have keep : ∀ o E', MpAt keS (setBlock wr mr o) mr E' → SvR w (setBlock wr mr o) mr mc C Q E' qv := fun o E' hE => ⟨own_setBlock h0 h.own, hE, ⟨h.ch.mp.keep (setBlock_other hne), fun d hd => needs_set h0 (h.ch.nd d hd)⟩, h.old.trans (below_setBlock o h.hm), h.hm⟩
  cases hf : findE x E 0 with
  | none =>
    rw [hf] at hl
    have hx := findE_none.1 hf
    obtain ⟨o, h1, h2⟩ := put_mp Tryz.underlying130 keyS h.mp hx v
    have hl2 := lookup_mp Tryz.underlying130 keyS (.int .i64 0) zeroInt h2 x false
    have hf2 : findE x (E ++ [(x, v)]) 0 = some (E.length, v) := by
      rw [findE_app v hx 0, Nat.zero_add]
    rw [hf2] at hl2
    exact Or.inl ⟨hx, hl, o, h1, hl2, keep _ _ h2⟩
  | some p =>
    obtain ⟨j, u⟩ := p
    rw [hf] at hl
    obtain ⟨o, h1, h2⟩ := set_mp Tryz.underlying130 keyS h.mp hf v
    have hl2 := lookup_mp Tryz.underlying130 keyS (.int .i64 0) zeroInt h2 x false
    obtain ⟨k, hk, hE, hno⟩ := findE_some hf
    rw [Nat.zero_add] at hk
    subst hk
    have hf2 : findE x (E.set j (x, v)) 0 = some (j, v) := by
      rw [findE_set v E 0 j (List.getElem?_eq_some_iff.1 hE).1 hno, Nat.zero_add]
    rw [hf2] at hl2
    exact Or.inr ⟨j, u, rfl, hl, o, h1, hl2, keep _ _ h2⟩
/-- Needs as what is appended. -/
theorem needs_src {w : World} {na : Option Addr} {nl nc : Nat} {N : List Ned} (h : NeedsIn w (.slice na nl nc) N) (hl : nl = N.length) : ∃ b off, (0 < nl → na = some ⟨b, off, none⟩) ∧ (∀ j u, (flatN N)[j]? = some u → w.cell? ⟨b, off + j, none⟩ = some u) ∧ (na = none → nl = 0 ∧ nc = 0) := by
  obtain ⟨a, b, off, c, h1, h2, h3, h4, h5⟩ := h.ex
  simp only [Value.slice.injEq] at h1
  obtain ⟨rfl, h1b, rfl⟩ := h1
  subst hl
  refine ⟨b, off, fun h0 => (h3 h0).1, fun j u hj => ?_, fun h0 => ⟨?_, h4 h0⟩⟩
  · have hjl : j < (flatN N).length := (List.getElem?_eq_some_iff.1 hj).1
    rw [flatN_len] at hjl
    have e : j = j / 2 * 2 + j % 2 := by omega
    have h6 := h5 (j / 2) (by omega) (j % 2) u (by
      rw [← flatN_at N (j / 2) (by omega) (j % 2) (by omega), ← e]
      exact hj)
    rw [show off + j / 2 * 2 + j % 2 = off + j by omega] at h6
    exact h6
  · by_cases h9 : 0 < N.length
    · rw [(h3 h9).1] at h0; cases h0
    · omega
theorem flatN_one (N : List Ned) : ∀ u ∈ flatN N, u.oneCell' = true := fun u hu => by
  unfold flatN at hu
  obtain ⟨l, hl1, hl2⟩ := List.mem_flatten.1 hu
  obtain ⟨x, _, rfl⟩ := List.mem_map.1 hl1
  simp at hl2
  rcases hl2 with rfl | rfl <;> rfl
theorem row_range2 {w : World} {k : Nat} {a b : Value} {t : TypeId} (h : Row w k #[a, b] t) : w.rangeAt k 0 [a, b] := fun j u hj => by
  rw [Nat.zero_add, h.cell j, ← hj]
  exact List.getElem?_toArray
end Go.Proofs.YtkbhckjpmgkgjaaGreatDoor
namespace Go.Proofs.YtkbhckjpmgkgjaaGreatDoor
open Go.RowKit
open Go.ChangeMaps (setBlock)

set_option maxRecDepth 40000 in
set_option maxHeartbeats 16000000 in
theorem solves_ok {L : List Pak} {W : List Ned} {C : List PV} {mc : Nat} {wa : Option Addr} {wc : Nat} (w : World) (hC : ChAt w mc C) (hPk : ∀ d ∈ C, packOf L d.1.key = some d.1) (hCl : C.length ≤ 1000) (hCo : ∀ d ∈ C, d.1.nd.length ≤ 64 ∧ d.1.vr.size ≤ 140737488355328 ∧ ∀ n ∈ d.1.nd, NOk n) (hW : NeedsIn w (.slice wa W.length wc) W) (hWl : W.length ≤ 64) (hWo : ∀ n ∈ W, NOk n) (hT : Pw w) : Calls Tryz.prog 41 #[.map (some mc), .slice wa W.length wc] w fun e w' => e = .returned (.bool (solB L W (C.map pkN))) ∧ Below w.heap.size w w' := by
  obtain ⟨RP, hRP⟩ : ∃ RP : Bool → Prop, RP = fun b => b = solB L W (C.map pkN) := ⟨_, rfl⟩
  have HRP : Hid (∀ b, b = solB L W (C.map pkN) → RP b) := fun b h => by rw [hRP]; exact h
  have HRB : Hid (∀ b, RP b → b = solB L W (C.map pkN)) := fun b h => by rw [hRP] at h; exact h
  obtain ⟨R, hR⟩ : ∃ R, R = solB L W (C.map pkN) := ⟨_, rfl⟩
  have HR : Hid (R = solB L W (C.map pkN)) := hR
  rw [← hR]
  have HPk : Hid (∀ d ∈ C, packOf L d.1.key = some d.1) := hPk
  have HCo : Hid (∀ d ∈ C, d.1.nd.length ≤ 64 ∧ d.1.vr.size ≤ 140737488355328 ∧ ∀ n ∈ d.1.nd, NOk n) := hCo
  have HT : Hid (Pw w) := hT
  have HNd0 : Hid (∀ d ∈ C, ∀ wx, Below w.heap.size w wx → NeedsIn wx d.2 d.1.nd) := fun d hd wx hx => (hC.nd d hd).keep (Nat.le_refl _) hx
  have hmm := run_makeMap_plain (P := Tryz.prog) w 130
  have hba : Below w.heap.size w (w.alloc (.map #[] 0)) := (Below.refl _ _).alloc (Nat.le_refl _) _
  have hne : mc ≠ w.heap.size := by have := hC.mp.lt; omega
  have HNe : Hid (mc ≠ w.heap.size) := hne
  have hMp : MpAt keS (w.alloc (.map #[] 0)) w.heap.size [] := mp_new _ w
  have hCh : ChAt (w.alloc (.map #[] 0)) mc C := hC.next hba
  have hWn : NeedsIn (w.alloc (.map #[] 0)) (.slice wa W.length wc) W := hW.keep (Nat.le_refl _) hba
  obtain ⟨m, hm⟩ : ∃ m, m = W.length := ⟨_, rfl⟩
  have HM : Hid (m = W.length) := hm
  rw [← hm] at hWl hWn ⊢
  obtain ⟨wb, woff, hq1, hq2, hq3⟩ := needs_src hWn hm
  have HQ1 : Hid (0 < m → wa = some ⟨wb, woff, none⟩) := hq1
  have HQ2 : Hid (∀ j u, (flatN W)[j]? = some u → (w.alloc (.map #[] 0)).cell? ⟨wb, woff + j, none⟩ = some u) := hq2
  have HQ3 : Hid (wa = none → m = 0 ∧ wc = 0) := hq3
  have HFl : Hid ((flatN W).length = m * 2) := by show _ = _; rw [flatN_len, hm]
  have HI0 : Hid (SvI L W C W 0 []) := SvI.start hWo
  have HMp : Hid (MpAt keS (w.alloc (.map #[] 0)) w.heap.size []) := hMp
  have HCh : Hid (ChAt (w.alloc (.map #[] 0)) mc C) := hCh
  have HBa : Hid (Below w.heap.size w (w.alloc (.map #[] 0))) := hba
  have hno : (w.alloc (.map #[] 0)).ownsRow w.heap.size 61 2 (.slice none 0 0) 0 [] := World.ownsRow_nil _ _ _ _
  have HNo : Hid ((w.alloc (.map #[] 0)).ownsRow w.heap.size 61 2 (.slice none 0 0) 0 []) := hno
  clear hC hPk hCo hT hW hWo hRP hR hm hWn hq1 hq2 hq3 hMp hCh hba hno hne
  go_enter Tryz.func41, Tryz.ntmps41
  go_wp2_with (at_builtin; refine wpList_plain rfl fun K' hK' => ?_; refine wp_append_any (some 14) rfl _ _ 42 61 (.agg zeroNd) 2 32 Tryz.underlying42 infoNdz rfl (by decide) rfl w.heap.size (.slice none 0 0) 0 [] rfl HNo.out wa wb woff m wc (flatN W) HFl.out rfl HQ1.out HQ2.out (flatN_one W) HQ3.out (by unfold maxLen; omega) (by omega) HBa.out.size ?_; intro v6 w6 ho6 hg6 _; refine hK' _ _ ?_; have HO6 : Hid (w6.ownsRow w.heap.size 61 2 v6 (0 + m) ([] ++ flatN W)) := ho6; have HG6 : Hid ((w.alloc (.map #[] 0)).grownBy w6 (Value.slice none 0 0).ownBlock) := hg6; clear ho6 hg6)
  have HR0 : Hid (SvR w w6 w.heap.size mc C W [] v6) := by
    have hb6 : Below (w.alloc (.map #[] 0)).heap.size (w.alloc (.map #[] 0)) w6 := below_own' HG6.out (Nat.le_refl _) (fun k hk => by cases hk)
    refine ⟨?_, HMp.out.next hb6, HCh.out.next hb6, HBa.out.trans (hb6.mono HBa.out.size), Nat.le_refl _⟩
    have h := HO6.out
    rw [Nat.zero_add, List.nil_append, HM.out] at h
    exact h
  obtain ⟨mr, hmr⟩ : ∃ mr, mr = w.heap.size := ⟨_, rfl⟩
  rw [← hmr] at HR0 HNe hmm
  rw [← hmr]
  clear HO6 HG6 HNo HMp HCh HQ1 HQ2 HQ3 HBa hmm hmr
  go_loopw [6, 7] (fun qv iv wr => ∃ (i : Nat) (Q : List Ned) (E : List (ByteArray × Value)), i ≤ Q.length ∧ iv = .int .i64 i ∧ Hid (SvI L W C Q i E) ∧ Hid (SvR w wr mr mc C Q E qv)) (fun _ iv _ => 64 + 64 * C.length + 1 - (intOf iv).toNat)
  case atStart => exact ⟨0, W, [], Nat.zero_le _, rfl, HI0, HR0⟩
  case round =>
    obtain ⟨i, Q, E, hi, rfl, HI, HRr⟩ := hrel
    obtain ⟨qa, qc, rfl⟩ := slice_of HRr.out.own
    obtain ⟨ql, hql⟩ : ∃ ql, ql = Q.length := ⟨_, rfl⟩
    have HQl : Hid (ql = Q.length) := hql
    have hqb : ql ≤ 64 + 64 * C.length := by have h1 := HI.out.len; have h2 := HI.out.few; have h3 := HM.out; omega
    rw [← hql] at hi HRr
    rw [← hql]
    clear hql HR0
    by_cases hlt : i < ql
    · have hlt' : (i : Int) < (ql : Int) := by omega
      have hiQ : i < Q.length := by have := HQl.out; omega
      obtain ⟨a0, g, off, c0, hv, hle, hg, _, hcs⟩ := HRr.out.needs.ex
      simp only [Value.slice.injEq] at hv
      obtain ⟨rfl, -, rfl⟩ := hv
      obtain ⟨rfl, hgl⟩ := hg (by omega)
      have hrg := hcs i hiQ
      obtain ⟨n, hn⟩ : ∃ n, n = Q[i] := ⟨_, rfl⟩
      rw [← hn] at hrg
      have HNq : Hid (n = Q[i]) := hn
      have HNin : Hid (n ∈ Q) := by show _ ∈ _; rw [hn]; exact List.getElem_mem _
      have hrg : wr.rangeAt g (off + i * 2) [.string n.nm, .string n.rg] := hrg
      have hb3 : Below wr.heap.size wr (wr.alloc (.cells #[.string n.nm, .string n.rg] 61)) := (Below.refl _ _).alloc (Nat.le_refl _) _
      have hr3 : Row (wr.alloc (.cells #[.string n.nm, .string n.rg] 61)) wr.heap.size #[.string n.nm, .string n.rg] 61 := Row.new _ _ _
      obtain ⟨w3, hw3⟩ : ∃ x, x = wr.alloc (.cells #[.string n.nm, .string n.rg] 61) := ⟨_, rfl⟩
      rw [← hw3] at hb3 hr3
      have hw3' := hw3.symm
      obtain ⟨k3, hk3⟩ : ∃ k, k = wr.heap.size := ⟨_, rfl⟩
      have hk3' := hk3.symm
      rw [← hk3] at hr3
      have HR3 : Hid (SvR w w3 mr mc C Q E (.slice (some ⟨g, off, none⟩) ql qc)) := HRr.out.next hb3
      have HRw3 : Hid (Row w3 k3 #[.string n.nm, .string n.rg] 61) := hr3
      have d0 : w3.cell? ⟨k3, 0, none⟩ = some (.string n.nm) := (hr3.cell 0).trans rfl
      have hlook := HR3.out.ch.look n.nm
      clear hn hw3 hk3 hb3 hr3 hcs hle hgl hg
      rcases hlook with ⟨d, hdC, hfd, hdn, hlk⟩ | ⟨hfd, hlk⟩
      · have hdn2 := HR3.out.ch.nd d hdC
        obtain ⟨hc1, hc2, hc3⟩ := HCo.out d hdC
        have HCh : Hid (chOf C n.nm = some d) := hfd
        have HPd : Hid (packOf L d.1.key = some d.1) := HPk.out d hdC
        have HO3 : Hid (∀ n ∈ d.1.nd, NOk n) := hc3
        have HC1 : Hid (d.1.nd.length ≤ 64) := hc1
        have HDC : Hid (d ∈ C) := hdC
        have hlk2 : (Instr.lookup 76 (.map (some mc)) (.string n.nm) true).run Tryz.prog w3 = .ok (.tuple #[.agg #[.string d.1.nm, .string d.1.vr, d.2], .bool true]) w3 := hlk
        obtain ⟨nv, hnv⟩ : ∃ nv, nv = d.2 := ⟨_, rfl⟩
        obtain ⟨nm, hnm⟩ : ∃ nm, nm = d.1.nm := ⟨_, rfl⟩
        obtain ⟨vr, hvr⟩ : ∃ vr, vr = d.1.vr := ⟨_, rfl⟩
        rw [← hnv, ← hnm, ← hvr] at hlk2
        rw [← hnv] at hdn2
        rw [← hvr] at hc2
        obtain ⟨na, _, _, nc, hnv2, _⟩ := hdn2.ex
        obtain ⟨nl, hnl⟩ : ∃ nl, nl = d.1.nd.length := ⟨_, rfl⟩
        rw [← hnl] at hnv2 hc1
        subst hnv2
        have HNv : Hid (Value.slice na nl nc = d.2) := hnv
        have HVr : Hid (vr = d.1.vr) := hvr
        have HNl : Hid (nl = d.1.nd.length) := hnl
        obtain ⟨⟨Cn, hCn⟩, hrs⟩ := (HI.out.a n HNin.out).2
        have HCn : Hid (rangeS (vb n.rg) = some Cn) := hCn
        have hb4 : Below w3.heap.size w3 (w3.alloc (.cells #[.string nm, .string vr, .slice na nl nc] 44)) := (Below.refl _ _).alloc (Nat.le_refl _) _
        have hr4 : Row (w3.alloc (.cells #[.string nm, .string vr, .slice na nl nc] 44)) w3.heap.size #[.string nm, .string vr, .slice na nl nc] 44 := Row.new _ _ _
        obtain ⟨w4, hw4⟩ : ∃ x, x = w3.alloc (.cells #[.string nm, .string vr, .slice na nl nc] 44) := ⟨_, rfl⟩
        rw [← hw4] at hb4 hr4
        have hw4' := hw4.symm
        obtain ⟨k4, hk4⟩ : ∃ k, k = w3.heap.size := ⟨_, rfl⟩
        have hk4' := hk4.symm
        rw [← hk4] at hr4
        have HR4 : Hid (SvR w w4 mr mc C Q E (.slice (some ⟨g, off, none⟩) ql qc)) := HR3.out.next hb4
        have HRw4 : Hid (Row w4 k4 #[.string nm, .string vr, .slice na nl nc] 44) := hr4
        have HRn4 : Hid (Row w4 k3 #[.string n.nm, .string n.rg] 61) := HRw3.out.below hb4 HRw3.out.lt
        have HT4 : Hid (∀ wx, Below w4.heap.size w4 wx → Pw wx) := fun wx hx => HT.out.keep (HR4.out.old.trans (hx.mono HR4.out.old.size)) HT.out.lt
        have HMC : Hid (∀ wx, Below w4.heap.size w4 wx → SvR w wx mr mc C Q E (.slice (some ⟨g, off, none⟩) ql qc)) := fun wx hx => HR4.out.next hx
        have HS0 : Hid (Below w4.heap.size w4 w4.drew) := (Below.refl _ _).drew
        clear hdC hfd hdn hlk hdn2 hc3 hnv hnm hvr hnl hCn hw4 hk4 hb4 hr4
        go_upto_region 9 with (first | refine wpList_load_mid rfl 61 _ rfl g (off + i * 2) rfl _ _ hrg Tryz.underlying61 rfl infoNd ?_ | (refine wpList_store_new rfl 61 _ _ rfl wr zeroNd #[.string n.nm, .string n.rg] 61 rfl wr.heap.size rfl rfl rfl infoNd rfl (nd_one _ _) ?_; rw [hw3']; rw [hk3']) | (refine wpList_store_new rfl 44 _ _ rfl w3 zeroPk #[.string nm, .string vr, .slice na nl nc] 44 rfl w3.heap.size rfl rfl rfl infoPk rfl (pk_one _ _ _ _ _) ?_; rw [hw4']; rw [hk4']))
        clear hrg hw3' hk3' hw4' hk4' hlk2 d0
        refine wp_region_permA [(false, 0), (false, 1), (false, 2), (false, 3), (false, 5), (false, 6), (true, 4), (true, 7), (true, 8), (true, 9)] (fun wx => Below w4.heap.size w4 wx) (by kernel_rfl) (by kernel_rfl) HS0.out ?_
        refine a_value (some 32) ?_ rfl rfl (by rfl) (fun wx hw => ?_) ?_
        rotate_left
        · go_simp
          with_reducible rfl
        simp only [Act.put, List.setIfInBounds_toArray, List.set_cons_zero, List.set_cons_succ]
        refine a_value (some 33) ?_ rfl rfl (by rfl) (fun wx hw => ?_) ?_
        rotate_left
        · go_simp
          with_reducible rfl
        simp only [Act.put, List.setIfInBounds_toArray, List.set_cons_zero, List.set_cons_succ]
        refine a_value (some 34) ?_ rfl rfl (by rfl) (fun wx hw => ?_) ?_
        rotate_left
        · go_simp
          with_reducible rfl
        simp only [Act.put, List.setIfInBounds_toArray, List.set_cons_zero, List.set_cons_succ]
        refine a_load_mid (some 35) 61 _ rfl rfl rfl (by rfl) k3 0 rfl [.string n.nm, .string n.rg] _ (fun wx hw => row_range2 (HRn4.out.below hw HRn4.out.lt)) Tryz.underlying61 rfl infoNd ?_
        simp only [Act.put, List.setIfInBounds_toArray, List.set_cons_zero, List.set_cons_succ]
        refine a_value (some 37) ?_ rfl rfl (by rfl) (fun wx hw => ?_) ?_
        rotate_left
        · go_simp
          with_reducible rfl
        simp only [Act.put, List.setIfInBounds_toArray, List.set_cons_zero, List.set_cons_succ]
        refine a_value (some 38) ?_ rfl rfl (by rfl) (fun wx hw => ?_) ?_
        rotate_left
        · have hc : wx.cell? ⟨k4, 1, none⟩ = some (.string vr) := ((HRw4.out.below hw HRw4.out.lt).cell 1).trans rfl
          go_simp
          with_reducible rfl
        simp only [Act.put, List.setIfInBounds_toArray, List.set_cons_zero, List.set_cons_succ]
        refine a_call (some 36) rfl rfl (by rfl) 65 #[.agg #[.string n.nm, .string n.rg]] (by go_simp) ?_
        refine (sought_ok w4.drew HCn.out hrs).mono ?_
        rintro e w5 ⟨ks, rfl, hsk, hb5⟩
        have HB5 : Hid (Below w4.heap.size w4 w5) := HS0.out.trans (hb5.mono HS0.out.size)
        refine ⟨_, rfl, HB5.out, ?_⟩
        simp only [Act.put, List.setIfInBounds_toArray, List.set_cons_zero, List.set_cons_succ]
        refine a_call (some 39) rfl rfl (by rfl) 99 #[.string vr, .pointer (some ⟨ks, 0, none⟩)] (by go_simp) ?_
        refine (soughtC_ok vr w5 hsk hc2 (HT4.out w5 HB5.out)).mono ?_
        rintro e w6 ⟨rfl, hb6⟩
        have HB6 : Hid (Below w4.heap.size w4 w6) := HB5.out.trans (hb6.mono HB5.out.size)
        refine ⟨_, rfl, HB6.out, ?_⟩
        simp only [Act.put, List.setIfInBounds_toArray, List.set_cons_zero, List.set_cons_succ]
        obtain ⟨ok, hok⟩ : ∃ ok, ok = okT Cn vr := ⟨_, rfl⟩
        have HOK : Hid (ok = okT Cn vr) := hok
        rw [← hok]
        clear hok hb5 hb6 hsk
        refine a_alone (some 40) (.bool (!ok)) w6 rfl rfl (by rfl) (by go_simp) HB6.out ?_
        simp only [Act.put, List.setIfInBounds_toArray, List.set_cons_zero, List.set_cons_succ]
        refine a_alone (some 41) (.bool (!ok)) w6 rfl rfl (by rfl) (by go_simp) HB6.out ?_
        simp only [Act.put, List.setIfInBounds_toArray, List.set_cons_zero, List.set_cons_succ]
        refine a_done ?_
        try simp only [Exit.then]
        have HR6 : Hid (SvR w w6 mr mc C Q E (.slice (some ⟨g, off, none⟩) ql qc)) := HMC.out w6 HB6.out
        have hr6n : Row w6 k3 #[.string n.nm, .string n.rg] 61 := HRn4.out.below HB6.out HRn4.out.lt
        have hr6p : Row w6 k4 #[.string nm, .string vr, .slice na nl nc] 44 := HRw4.out.below HB6.out HRw4.out.lt
        cases ok with
        | false =>
          have HRf : Hid (R = false) := by
            show _ = _
            rw [HR.out]
            exact sol_bad (HI.out.a n HNin.out).1 (met_no HCn.out HCh.out (by rw [← HVr.out]; exact HOK.out.symm))
          clear hr6n hr6p
          go_wp2
          go_ret
          exact ⟨by rw [HRf.out]; rfl, HR6.out.old⟩
        | true =>
          have HMet : Hid (metP (C.map pkN) n) := met_yes HCn.out HCh.out (by rw [← HVr.out]; exact HOK.out.symm)
          have e0 : w6.cell? ⟨k3, 0, none⟩ = some (.string n.nm) := (hr6n.cell 0).trans rfl
          have HRow6 : Hid (Row w6 k3 #[.string n.nm, .string n.rg] 61) := hr6n
          have HRop6 : Hid (Row w6 k4 #[.string nm, .string vr, .slice na nl nc] 44) := hr6p
          obtain ⟨s, hs⟩ : ∃ s, s = n.nm := ⟨_, rfl⟩
          have HS : Hid (s = n.nm) := hs
          rw [← hs] at e0
          clear hr6n hr6p hs
          by_cases hin : s ∈ E.map (·.1)
          · rcases HR6.out.mark HNe.out s (.int .i64 0) with ⟨hx, _⟩ | ⟨j, u, hf, _⟩
            · exact absurd hin hx
            · obtain ⟨z, hz, hz1, hz2, hI2⟩ := HI.out.again hiQ HNq.out HMet.out (j := j) (v := u) (by rw [← HS.out]; exact hf)
              rcases HR6.out.mark HNe.out s (.int .i64 ((z + 1 : Nat) : Int)) with ⟨hx, _⟩ | ⟨j2, u2, hf2, hl1, o, hup, hl2, hR7⟩
              · exact absurd hin hx
              · rw [hf] at hf2
                cases hf2
                subst hz
                have HI7 : Hid (SvI L W C Q (i + 1) (E.set j (s, .int .i64 ((z + 1 : Nat) : Int)))) := by rw [HS.out]; exact hI2
                have HR7 : Hid (SvR w (setBlock w6 mr o) mr mc C Q (E.set j (s, .int .i64 ((z + 1 : Nat) : Int))) (.slice (some ⟨g, off, none⟩) ql qc)) := hR7
                obtain ⟨es, clk, hmo, _⟩ := HR6.out.mp.ex
                have hkm : k3 ≠ mr := fun e => by have h := HRow6.out; rw [e] at h; rw [show w6.heap[mr]? = _ from h] at hmo; cases hmo
                have hr7 : Row (setBlock w6 mr o) k3 #[.string n.nm, .string n.rg] 61 := (setBlock_other hkm).trans HRow6.out
                have e1 : (setBlock w6 mr o).cell? ⟨k3, 0, none⟩ = some (.string s) := by rw [HS.out]; exact (hr7.cell 0).trans rfl
                obtain ⟨z1, hz1e⟩ : ∃ z1, z1 = z + 1 := ⟨_, rfl⟩
                have hwz : IntKind.i64.wrap ((z : Int) + 1) = (z1 : Int) := by rw [IntKind.wrap_i64]; omega
                rw [← hz1e] at hup hl2
                have hne1 : (z1 == 1) = false := by simp; omega
                have hne2 : ¬ ((z1 : Int) = 1) := by omega
                have hne3 : ¬ (z1 = 1) := by omega
                clear hf hI2 hR7 hmo hkm hr7 hz1e
                go_wp2
                clear hl1 hup hl2 e0 e1
                go_roundw
                case rel => exact ⟨i + 1, Q, _, by have := HQl.out; omega, by go_num, HI7, HR7⟩
                case measure => simp [intOf]; omega
          · rcases HR6.out.mark HNe.out s (.int .i64 ((1 : Nat) : Int)) with ⟨hx, hl1, o, hup, hl2, hR7⟩ | ⟨j, u, hf, _⟩
            · have HI7 : Hid (SvI L W C (Q ++ d.1.nd) (i + 1) (E ++ [(s, .int .i64 ((1 : Nat) : Int))])) := by
                rw [HS.out]
                exact HI.out.more hiQ HNq.out HMet.out (by rw [← HS.out]; exact hx) HCh.out HPd.out HC1.out HO3.out
              have HR7 : Hid (SvR w (setBlock w6 mr o) mr mc C Q (E ++ [(s, .int .i64 ((1 : Nat) : Int))]) (.slice (some ⟨g, off, none⟩) ql qc)) := hR7
              obtain ⟨es, clk, hmo, _⟩ := HR6.out.mp.ex
              have hkm : k3 ≠ mr := fun e => by have h := HRow6.out; rw [e] at h; rw [show w6.heap[mr]? = _ from h] at hmo; cases hmo
              have hkm4 : k4 ≠ mr := fun e => by have h := HRop6.out; rw [e] at h; rw [show w6.heap[mr]? = _ from h] at hmo; cases hmo
              have hr7 : Row (setBlock w6 mr o) k3 #[.string n.nm, .string n.rg] 61 := (setBlock_other hkm).trans HRow6.out
              have hr8 : Row (setBlock w6 mr o) k4 #[.string nm, .string vr, .slice na nl nc] 44 := (setBlock_other hkm4).trans HRop6.out
              have e1 : (setBlock w6 mr o).cell? ⟨k3, 0, none⟩ = some (.string s) := by rw [HS.out]; exact (hr7.cell 0).trans rfl
              have e2 : (setBlock w6 mr o).cell? ⟨k4, 2, none⟩ = some (.slice na nl nc) := (hr8.cell 2).trans rfl
              have hnd : NeedsIn (setBlock w6 mr o) (.slice na nl nc) d.1.nd := by rw [HNv.out]; exact hR7.ch.nd d HDC.out
              have hup2 : (Instr.mapUpdate 130 (.map (some mr)) (.string s) (.int .i64 1)).run Tryz.prog w6 = .ok () (setBlock w6 mr o) := hup
              have hl22 : (Instr.lookup 130 (.map (some mr)) (.string s) false).run Tryz.prog (setBlock w6 mr o) = .ok (.int .i64 1) (setBlock w6 mr o) := hl2
              have hown7 := hR7.own
              rw [← HQl.out] at hown7
              have hold7 := hR7.old.size
              generalize setBlock w6 mr o = w7 at *
              obtain ⟨nb, noff, hq1, hq2, hq3⟩ := needs_src hnd HNl.out
              have HOwn : Hid (w7.ownsRow w.heap.size 61 2 (.slice (some ⟨g, off, none⟩) ql qc) ql (flatN Q)) := hown7
              have HZ1 : Hid (0 < nl → na = some ⟨nb, noff, none⟩) := hq1
              have HZ2 : Hid (∀ j u, (flatN d.1.nd)[j]? = some u → w7.cell? ⟨nb, noff + j, none⟩ = some u) := hq2
              have HZ3 : Hid (na = none → nl = 0 ∧ nc = 0) := hq3
              have HFl2 : Hid ((flatN d.1.nd).length = nl * 2) := by show _ = _; rw [flatN_len, ← HNl.out]
              clear hx hR7 hmo hkm hkm4 hr7 hr8 hnd hq1 hq2 hq3 hup hl2 hown7 hin
              go_wp2_with (at_builtin; refine wpList_plain rfl fun K' hK' => ?_; refine wp_append_any (some 55) rfl _ _ 42 61 (.agg zeroNd) 2 32 Tryz.underlying42 infoNdz rfl (by decide) rfl w.heap.size (.slice (some ⟨g, off, none⟩) ql qc) ql (flatN Q) rfl HOwn.out na nb noff nl nc (flatN d.1.nd) HFl2.out rfl HZ1.out HZ2.out (flatN_one _) HZ3.out (by unfold maxLen; omega) (by omega) hold7 ?_; intro v9 w9 ho9 hg9 _; refine hK' _ _ ?_; have HO9 : Hid (w9.ownsRow w.heap.size 61 2 v9 (ql + nl) (flatN Q ++ flatN d.1.nd)) := ho9; have HG9 : Hid (w7.grownBy w9 (Value.slice (some ⟨g, off, none⟩) ql qc).ownBlock) := hg9; clear ho9 hg9)
              have HR9 : Hid (SvR w w9 mr mc C (Q ++ d.1.nd) (E ++ [(s, .int .i64 ((1 : Nat) : Int))]) v9) := by
                have h7 := HR7.out
                have hgb := HG9.out
                have hrow := ownsRow_row HOwn.out
                have hmk : ∀ (mm : Nat) (es : Array MapEntry) (clk : Nat), w7.heap[mm]? = some (Obj.map es clk) → w9.heap[mm]? = w7.heap[mm]? := fun mm es clk hmm => hgb.block mm (Array.getElem?_eq_some_iff.1 hmm).1 fun e => by
                  obtain ⟨CC, hCC⟩ := hrow mm e.symm
                  rw [hmm] at hCC
                  cases hCC
                obtain ⟨es1, clk1, hm1, _⟩ := h7.mp.ex
                obtain ⟨es2, clk2, hm2, _⟩ := h7.ch.mp.ex
                have hold9 : Below w.heap.size w w9 := h7.old.trans (below_own' hgb h7.old.size fun k hk => (own_block HOwn.out k hk).1)
                refine ⟨?_, h7.mp.keep (hmk _ _ _ hm1), ⟨h7.ch.mp.keep (hmk _ _ _ hm2), fun e he => HNd0.out e he w9 hold9⟩, hold9, h7.hm⟩
                rw [List.length_append, flatN_app, ← HQl.out, ← HNl.out]
                exact HO9.out
              clear HO9 HG9 HOwn HZ1 HZ2 HZ3 hl1 hup2 hl22 e0 e1 e2
              go_roundw
              case rel => exact ⟨i + 1, Q ++ d.1.nd, _, by rw [List.length_append]; have := HQl.out; omega, by go_num, HI7, HR9⟩
              case measure => simp [intOf]; omega
            · rw [findE_none.2 hin] at hf; cases hf
      · have HRf : Hid (R = false) := by
          show _ = _
          rw [HR.out]
          exact sol_bad (HI.out.a n HNin.out).1 (met_none hfd)
        have HB4 : Hid (Below w.heap.size w (w3.alloc (.cells zeroPk 44))) := HR3.out.old.alloc HR3.out.old.size _
        have HBq : Hid (∀ q, Below w.heap.size w ((w3.alloc (.cells zeroPk 44)).drewN q)) := fun q => HB4.out.trans ⟨rfl, rfl, rfl, Nat.le_refl _, fun _ _ => rfl⟩
        clear hfd
        go_wp2_with (first | refine wpList_load_mid rfl 61 _ rfl g (off + i * 2) rfl _ _ hrg Tryz.underlying61 rfl infoNd ?_ | (refine wpList_store_new rfl 61 _ _ rfl wr zeroNd #[.string n.nm, .string n.rg] 61 rfl wr.heap.size rfl rfl rfl infoNd rfl (nd_one _ _) ?_; rw [hw3']; rw [hk3']) | (refine wpList_store_new rfl 44 _ _ rfl w3 zeroPk zeroPk 44 rfl w3.heap.size rfl rfl rfl infoPk rfl (pk_one _ _ _ _ _) ?_))
        go_quiet (fail)
        go_wp2
        go_ret
        exact ⟨by rw [HRf.out]; rfl, HBq.out _⟩
    · have hlt' : ¬ (i : Int) < (ql : Int) := by omega
      obtain ⟨es1, clk1, hm1, hs1⟩ := HRr.out.mp.ex
      obtain ⟨es2, clk2, hm2, hs2⟩ := HRr.out.ch.mp.ex
      have hz1 : es1.size = E.length := by have := congrArg List.length hs1; simpa using this
      have hz2 : es2.size = C.length := by have := congrArg List.length hs2; simpa using this
      have HEnd : Hid (R = decide (E.length = C.length)) := by show _ = _; rw [HR.out]; exact HI.out.ends (by have := HQl.out; omega) HPk.out
      have HBf : Hid (Below w.heap.size w wr) := HRr.out.old
      have hl1 := len_mp Tryz.underlying130 3 HRr.out.mp
      have hl2 := len_mp Tryz.underlying76 3 HRr.out.ch.mp
      rw [List.length_map] at hl2
      obtain ⟨el, hel⟩ : ∃ el, el = E.length := ⟨_, rfl⟩
      obtain ⟨cl, hcl⟩ : ∃ cl, cl = C.length := ⟨_, rfl⟩
      rw [← hel] at hl1 HEnd
      rw [← hcl] at hl2 HEnd
      clear hm1 hs1 hm2 hs2 hz1 hz2 hel hcl hqb
      by_cases hee : el = cl
      · have HRt : Hid (R = true) := by show _ = _; rw [HEnd.out]; exact decide_eq_true hee
        subst hee
        go_wp2
        go_ret
        exact ⟨by rw [HRt.out]; rfl, HBf.out⟩
      · have HRt : Hid (R = false) := by show _ = _; rw [HEnd.out]; exact decide_eq_false hee
        have hne1 : ((el : Int) == (cl : Int)) = false := by simpa using (fun h : (el : Int) = (cl : Int) => hee (by omega))
        go_wp2
        go_ret
        exact ⟨by rw [HRt.out]; rfl, HBf.out⟩
end Go.Proofs.YtkbhckjpmgkgjaaGreatDoor
namespace Go.Proofs.YtkbhckjpmgkgjaaGreatDoor
open Go.RowKit

/-- What is asked of packages and wants: sizes. -/
structure InOk (L : List Pak) (W P : List Ned) : Prop where
  l : L.length ≤ 1000
  fp : FitP L
  w : FitN W
  pl : P.length ≤ 1000
  ps : ∀ q ∈ P, q.rg.size ≤ 140737488355328
theorem right_ok_needs {L : List Pak} (h : rightL L = 0) : ∀ p ∈ L, ∀ n ∈ p.nd, ∃ C, rangeS (vb n.rg) = some C := fun p hp n hn => by
  obtain ⟨B, hB⟩ := packs_mem (rightL_zero.1 h).2 p hp
  obtain ⟨A, hA⟩ := needs_mem (packE_parts hB).2 n hn
  exact (rightN_ok hA).2.1
set_option maxRecDepth 20000 in
set_option maxHeartbeats 8000000 in
theorem check_ok {L : List Pak} {W P : List Ned} {pv : Value} {wa qa : Option Addr} {wc qc : Nat} (w : World) (hL : PacksIn w pv L) (hW : NeedsIn w (.slice wa W.length wc) W) (hP : NeedsIn w (.slice qa P.length qc) P) (hI : InOk L W P) (hT : Pw w) : Calls Tryz.prog 22 #[pv, .slice wa W.length wc, .slice qa P.length qc] w fun e w' => e = .returned (.int .i64 (checkE L W P)) ∧ Below w.heap.size w w' := by
  have hwr := wrong_ok w hL hI.fp (by have := hI.l; omega) hW hI.w
  obtain ⟨R, hR⟩ : ∃ R, R = wrongE L W := ⟨_, rfl⟩
  have HR : Hid (R = wrongE L W) := hR
  rw [← hR] at hwr
  have HL : Hid (∀ wx, Below w.heap.size w wx → PacksIn wx pv L) := fun wx hx => hL.keep (Nat.le_refl _) hx
  have HW : Hid (∀ wx, Below w.heap.size w wx → NeedsIn wx (.slice wa W.length wc) W) := fun wx hx => hW.keep (Nat.le_refl _) hx
  have HP : Hid (∀ wx, Below w.heap.size w wx → NeedsIn wx (.slice qa P.length qc) P) := fun wx hx => hP.keep (Nat.le_refl _) hx
  have HIn : Hid (InOk L W P) := hI
  have HT : Hid (Pw w) := hT
  obtain ⟨m, hm⟩ : ∃ m, m = W.length := ⟨_, rfl⟩
  obtain ⟨n, hn⟩ : ∃ n, n = P.length := ⟨_, rfl⟩
  have HM : Hid (m = W.length) := hm
  have HN : Hid (n = P.length) := hn
  rw [← hm] at hwr HW
  rw [← hn] at HP
  rw [← hm, ← hn]
  clear hL hW hP hI hT hR hm hn
  by_cases hz : R = 0
  · have HW0 : Hid (wrongE L W = 0) := by show _ = _; rw [← HR.out]; exact hz
    subst hz
    have hri := fun wx (hx : Below w.heap.size w wx) => rise_ok (P := P) (pa := qa) (pc := qc) wx (by rw [← HN.out]; exact HP.out wx hx) (by have := HIn.out.pl; omega)
    have HRi : Hid (∀ wx, Below w.heap.size w wx → Calls Tryz.prog 39 #[.slice qa n qc] wx fun e w' => e = .returned (.bool (riseB P)) ∧ Below wx.heap.size wx w') := fun wx hx => by rw [HN.out]; exact hri wx hx
    clear hri HR
    go_enter Tryz.func22, Tryz.ntmps22
    go_wp2_with fail
    refine hwr.mono ?_
    rintro e w1 ⟨rfl, hb1⟩
    have HB1 : Hid (Below w.heap.size w w1) := hb1
    clear hwr hb1
    go_wp2_with fail
    refine (HRi.out w1 HB1.out).mono ?_
    rintro e w2 ⟨rfl, hb2⟩
    have HB2 : Hid (Below w.heap.size w w2) := HB1.out.trans (hb2.mono HB1.out.size)
    obtain ⟨rb, hrb⟩ : ∃ rb, rb = riseB P := ⟨_, rfl⟩
    have HRb : Hid (rb = riseB P) := hrb
    rw [← hrb]
    clear hb2 hrb HRi
    cases rb with
    | false =>
      have HF : Hid (checkE L W P = 17) := by
        show _ = _
        unfold checkE
        rw [if_neg (fun k => k HW0.out), if_pos HRb.out.symm]
      go_wp2
      go_ret
      exact ⟨by rw [HF.out]; rfl, HB2.out⟩
    | true =>
      obtain ⟨z1, z2, z3⟩ := wrong_zero HW0.out
      have hch := chosen_ok w2 (HL.out w2 HB2.out) (by have := HIn.out.l; omega) (P := P) (pa := qa) (pc := qc) (by rw [← HN.out]; exact HP.out w2 HB2.out) (by have := HIn.out.pl; omega) (right_keys z1) (rise_nodup (rise_of HRb.out.symm))
      rw [← HN.out] at hch
      have HZ1 : Hid (rightL L = 0) := z1
      have HZ2 : Hid (W.length ≤ 64) := z2
      have HZ3 : Hid (needsE [] W = 0) := z3
      clear z1 z2 z3
      go_wp2_with fail
      refine hch.mono ?_
      rintro e w3 (⟨hh, rfl, hb3⟩ | ⟨hh, mc, C, rfl, hC, hCP, hPk, hb3⟩)
      · have HB3 : Hid (Below w.heap.size w w3) := HB2.out.trans (hb3.mono HB2.out.size)
        have HF : Hid (checkE L W P = 14) := by
          show _ = _
          unfold checkE
          rw [if_neg (fun k => k HW0.out), if_neg (by rw [← HRb.out]; decide), if_pos hh]
        clear hch hh hb3
        go_wp2
        go_ret
        exact ⟨by rw [HF.out]; rfl, HB3.out⟩
      · have HB3 : Hid (Below w.heap.size w w3) := HB2.out.trans (hb3.mono HB2.out.size)
        have hCl : C.length = P.length := by rw [← hCP, List.length_map]
        have hso := solves_ok (L := L) (W := W) (wa := wa) (wc := wc) w3 hC hPk (by have := HIn.out.pl; omega) (fun d hd => by
          obtain ⟨hdL, _⟩ := packOf_some (hPk d hd)
          obtain ⟨_, _, s3, _⟩ := right_small HZ1.out d.1 hdL
          exact ⟨s3, (HIn.out.fp d.1 hdL).2.1, fun n hn => ⟨right_ok_needs HZ1.out d.1 hdL n hn, ((HIn.out.fp d.1 hdL).2.2 n hn).2⟩⟩) (by rw [← HM.out]; exact HW.out w3 HB3.out) HZ2.out (fun n hn => by
          obtain ⟨A, hA⟩ := needs_mem HZ3.out n hn
          exact ⟨(rightN_ok hA).2.1, (HIn.out.w n hn).2⟩) (HT.out.keep HB3.out HT.out.lt)
        rw [hCP, ← HM.out] at hso
        have HF : Hid (checkE L W P = if solB L W P = false then 22 else 0) := by
          show _ = _
          unfold checkE
          rw [if_neg (fun k => k HW0.out), if_neg (by rw [← HRb.out]; decide), if_neg (by rw [hh]; decide)]
        obtain ⟨sb, hsb⟩ : ∃ sb, sb = solB L W P := ⟨_, rfl⟩
        rw [← hsb] at hso HF
        clear hch hh hb3 hC hCP hPk hCl hsb
        go_wp2_with fail
        refine hso.mono ?_
        rintro e w4 ⟨rfl, hb4⟩
        have HB4 : Hid (Below w.heap.size w w4) := HB3.out.trans (hb4.mono HB3.out.size)
        clear hso hb4
        cases sb with
        | false =>
          go_wp2
          go_ret
          exact ⟨by rw [HF.out]; rfl, HB4.out⟩
        | true =>
          go_wp2
          go_ret
          exact ⟨by rw [HF.out]; rfl, HB4.out⟩
  · have hzb := beqI hz
    have HF : Hid (checkE L W P = R) := by
      show _ = _
      unfold checkE
      rw [← HR.out, if_pos hz]
    go_enter Tryz.func22, Tryz.ntmps22
    go_wp2_with fail
    refine hwr.mono ?_
    rintro e w1 ⟨rfl, hb1⟩
    have HB1 : Hid (Below w.heap.size w w1) := hb1
    clear hwr hb1
    go_wp2
    go_ret
    exact ⟨by rw [HF.out]; rfl, HB1.out⟩
end Go.Proofs.YtkbhckjpmgkgjaaGreatDoor
namespace Go.Proofs.YtkbhckjpmgkgjaaGreatDoor
open Go.RowKit

theorem vers_slice {V : List ByteArray} {w w' : World} {e : Ending} (h : VersPost V w e w') : ∃ a c, e = .returned (.slice a V.length c) ∧ Below w.heap.size w w' := by
  obtain ⟨wr, hb, vs, rv, rfl, hp, _, ho, hb2⟩ := h
  obtain ⟨a, _, c, hv, _⟩ := slice_form ho
  exact ⟨a, c, by rw [hv], hb.trans (hb2.mono hb.size)⟩
set_option maxRecDepth 20000 in
set_option maxHeartbeats 4000000 in
theorem choices_ok {L : List Pak} {pa : Option Addr} {pc : Nat} (w : World) (hL : PacksIn w (.slice pa L.length pc) L) (hl : L.length ≤ 1000) (hF : ∀ p ∈ L, p.vr.size ≤ 140737488355328) : Calls Tryz.prog 37 #[.slice pa L.length pc, .int .i64 2000] w fun e w' => ∃ z : Int, e = .returned (.int .i64 z) ∧ Below w.heap.size w w' := by
  have hnm := names_ok w hL hl
  have HPk : Hid (∀ wx, Below w.heap.size w wx → PacksIn wx (.slice pa L.length pc) L) := fun wx hx => hL.keep (Nat.le_refl _) hx
  have HF : Hid (∀ p ∈ L, p.vr.size ≤ 140737488355328) := hF
  obtain ⟨n, hn⟩ : ∃ n, n = L.length := ⟨_, rfl⟩
  have HN : Hid (n = L.length) := hn
  rw [← hn] at hnm hl ⊢
  clear hL hF hn
  go_enter Tryz.func37, Tryz.ntmps37
  go_wp2_with fail
  refine hnm.mono ?_
  rintro e w1 ⟨X, ov, rfl, hXl, hX⟩
  have HB1 : Hid (Below w.heap.size w w1) := hX.old
  obtain ⟨m, hm⟩ : ∃ m, m = X.length := ⟨_, rfl⟩
  have HM : Hid (m = X.length) := hm
  have hs := (own_tx rfl hX.own).short hm.symm
  obtain ⟨xa, xg, xoff, xc, rfl, hxc, hxa, hxcell⟩ := hs.ex
  have HXA : Hid (0 < m → xa = some ⟨xg, xoff, none⟩) := hxa
  have HXC : Hid (∀ wx, Below w1.heap.size w1 wx → ∀ i (h : i < X.length), wx.cell? ⟨xg, xoff + i, none⟩ = some (.string X[i])) := hxcell
  have hm1 : m ≤ 1000 := by omega
  clear hnm hX hm hs hxa hxcell hXl
  go_wp2
  go_loopw [5, 7] (fun zv iv wr => ∃ i z : Nat, i ≤ m ∧ iv = .int .i64 i ∧ zv = .int .i64 z ∧ z ≤ 2000 ∧ Below w1.heap.size w1 wr) (fun _ iv _ => m - (intOf iv).toNat)
  case atStart => exact ⟨0, 1, Nat.zero_le _, rfl, rfl, by omega, Below.refl _ _⟩
  case round =>
    obtain ⟨i, z, hi, rfl, rfl, hz, hb⟩ := hrel
    have HB : Hid (Below w1.heap.size w1 wr) := hb
    clear hb
    by_cases hlt : i < m
    · have hlt' : (i : Int) < (m : Int) := by omega
      have hiX : i < X.length := by have := HM.out; omega
      obtain rfl := HXA.out (by omega)
      have cx := HXC.out wr HB.out i hiX
      obtain ⟨x, hx⟩ : ∃ x, x = X[i] := ⟨_, rfl⟩
      rw [← hx] at cx
      have hbw : Below w.heap.size w wr := HB1.out.trans (HB.out.mono HB1.out.size)
      have hvs := refVersions_ok x wr (HPk.out wr hbw) (by have := HN.out; omega) HF.out
      rw [← HN.out] at hvs
      clear hx hbw
      go_wp2_with fail
      refine hvs.mono ?_
      rintro e w2 hpost
      obtain ⟨va, vc, rfl, hb2⟩ := vers_slice hpost
      have HB2 : Hid (Below w1.heap.size w1 w2) := HB.out.trans (hb2.mono HB.out.size)
      obtain ⟨vn, hvn⟩ : ∃ vn, vn = (verOf L x).length := ⟨_, rfl⟩
      have hvl : vn ≤ 1000 := by rw [hvn]; have := verOf_len L x; have := HN.out; omega
      rw [← hvn]
      obtain ⟨k, hk⟩ : ∃ k, k = vn + 1 := ⟨_, rfl⟩
      have hw1 : IntKind.i64.wrap ((vn : Int) + 1) = (k : Int) := by rw [IntKind.wrap_i64]; omega
      obtain ⟨q, hq⟩ : ∃ q, q = 2000 / k := ⟨_, rfl⟩
      have hq1 : (2000 : Int).tdiv (k : Int) = (q : Int) := by rw [hq]; exact (Int.ofNat_tdiv 2000 k).symm ▸ rfl
      have hk0 : ¬ (k : Int) = 0 := by omega
      have hk0b : ((k : Int) == 0) = false := by simp; omega
      have hkn : ¬ k = 0 := by omega
      have hq2 : q * k ≤ 2000 := by rw [hq]; exact Nat.div_mul_le_self _ _
      have hq3 : q ≤ 2000 := by rw [hq]; exact Nat.div_le_self _ _
      clear hvs hpost hb2 hvn hq cx hk
      by_cases hgt : q < z
      · have hgt' : (q : Int) < (z : Int) := by omega
        have HBf : Hid (Below w.heap.size w w2) := HB1.out.trans (HB2.out.mono HB1.out.size)
        go_wp2
        go_ret
        exact ⟨2000, rfl, HBf.out⟩
      · have hgt' : ¬ (q : Int) < (z : Int) := by omega
        obtain ⟨y, hy⟩ : ∃ y, y = z * k := ⟨_, rfl⟩
        have hy1 : y ≤ 2000 := by rw [hy]; exact Nat.le_trans (Nat.mul_le_mul_right k (by omega)) hq2
        have hw2 : IntKind.i64.wrap ((z : Int) * (k : Int)) = (y : Int) := by
          have : (z : Int) * (k : Int) = (y : Int) := by rw [hy]; simp
          rw [this, IntKind.wrap_i64]
          omega
        clear hy hq2
        go_wp2
        go_roundw
        case rel => exact ⟨i + 1, y, by omega, by go_num, rfl, hy1, HB2.out⟩
        case measure => simp [intOf]; omega
    · have hlt' : ¬ (i : Int) < (m : Int) := by omega
      have HBf : Hid (Below w.heap.size w wr) := HB1.out.trans (HB.out.mono HB1.out.size)
      go_wp2
      go_ret
      exact ⟨⟨z, rfl⟩, HBf.out⟩
/-- Few enough packages and wants, ranges not too long. -/
structure FewOk (L : List Pak) (W : List Ned) : Prop where
  l : L.length < 100
  w : W.length < 100
  nd : ∀ p ∈ L, p.nd.length < 100
  ws : ∀ n ∈ W, n.rg.size < 2000
  ns : ∀ p ∈ L, ∀ n ∈ p.nd, n.rg.size < 2000
def FpR (RP : Bool → World → Prop) (e : Ending) (w' : World) : Prop := ∃ b, e = .returned (.bool b) ∧ RP b w'
set_option maxRecDepth 20000 in
set_option maxHeartbeats 8000000 in
theorem few16_ok {L : List Pak} {W : List Ned} {pa wa : Option Addr} {pc wc : Nat} (w : World) (hL : PacksIn w (.slice pa L.length pc) L) (hW : NeedsIn w (.slice wa W.length wc) W) (hl : L.length ≤ 140737488355328) (hnd : ∀ p ∈ L, p.nd.length ≤ 140737488355328) (hF : FitP L) (hwl : W.length ≤ 140737488355328) (hFW : FitN W) : Calls Tryz.prog 21 #[.slice pa L.length pc, .slice wa W.length wc] w (FpR (fun b w' => (b = true → FewOk L W) ∧ Below w.heap.size w w')) := by
  obtain ⟨RP, hRP⟩ : ∃ RP : Bool → World → Prop, RP = fun b w' => (b = true → FewOk L W) ∧ Below w.heap.size w w' := ⟨_, rfl⟩
  have HRF : Hid (∀ w', Below w.heap.size w w' → FpR RP (.returned (.bool false)) w') := fun w' h => by rw [hRP]; exact ⟨false, rfl, (fun h => by cases h), h⟩
  have HRT : Hid (∀ b w', (b = true → FewOk L W) → Below w.heap.size w w' → FpR RP (.returned (.bool b)) w') := fun b w' h1 h2 => by rw [hRP]; exact ⟨b, rfl, h1, h2⟩
  rw [← hRP]
  have HPk : Hid (PacksIn w (.slice pa L.length pc) L) := hL
  have HFv : Hid (∀ p ∈ L, p.vr.size ≤ 140737488355328) := fun p hp => (hF p hp).2.1
  have HFn : Hid (∀ p ∈ L, ∀ n ∈ p.nd, n.rg.size ≤ 140737488355328) := fun p hp n hn => ((hF p hp).2.2 n hn).2
  have HFW : Hid (∀ n ∈ W, n.rg.size ≤ 140737488355328) := fun n hn => (hFW n hn).2
  have HND : Hid (∀ p ∈ L, p.nd.length ≤ 140737488355328) := hnd
  have HAt : Hid (∀ i (hi : i < L.length), ∃ g off na nc, pa = some ⟨g, off, none⟩ ∧ w.cell? ⟨g, off + i * 3 + 2, none⟩ = some (.slice na L[i].nd.length nc) ∧ (0 < L[i].nd.length → ∃ ng noff, na = some ⟨ng, noff, none⟩ ∧ ∀ j (h : j < L[i].nd.length), w.cell? ⟨ng, noff + j * 2 + 1, none⟩ = some (.string L[i].nd[j].rg))) := fun i hi => by
    obtain ⟨g, off, na, nc, h1, h2, h3⟩ := packs_at hL i hi
    refine ⟨g, off, na, nc, h1, (h2 w (Below.refl _ _)).2.2, fun h0 => ?_⟩
    obtain ⟨ng, noff, k1, k2⟩ := h3 h0
    exact ⟨ng, noff, k1, fun j hj => k2 w (Below.refl _ _) j hj 1 _ rfl⟩
  obtain ⟨a1, wg, woff, c1, he, h2, h3, h4, h5⟩ := hW.ex
  simp only [Value.slice.injEq, true_and] at he
  obtain ⟨rfl, rfl⟩ := he
  have HW1 : Hid (0 < W.length → wa = some ⟨wg, woff, none⟩) := fun h => (h3 h).1
  have HW5 : Hid (∀ i (h : i < W.length), w.cell? ⟨wg, woff + i * 2 + 1, none⟩ = some (.string W[i].rg)) := fun i hi => h5 i hi 1 _ rfl
  obtain ⟨n, hn⟩ : ∃ n, n = L.length := ⟨_, rfl⟩
  have HN : Hid (n = L.length) := hn
  obtain ⟨m, hm⟩ : ∃ m, m = W.length := ⟨_, rfl⟩
  have HM : Hid (m = W.length) := hm
  rw [← hn, ← hm]
  rw [← hn] at hl
  rw [← hm] at hwl h2
  obtain ⟨t, ht⟩ : ∃ t, t = n + m := ⟨_, rfl⟩
  have hwt : IntKind.i64.wrap ((n : Int) + (m : Int)) = (t : Int) := by rw [IntKind.wrap_i64]; omega
  have HT : Hid (t = n + m) := ht
  have htl : t ≤ 281474976710656 := by omega
  clear hL hW h3 h4 h5 hn hm hnd hF hFW hRP ht
  go_enter Tryz.func21, Tryz.ntmps21
  by_cases h100 : t < 100
  · have h100' : (t : Int) < 100 := by omega
    go_wp2
    clear hwt
    go_loop [6, 7] (fun lv iv => ∃ lg i : Nat, i ≤ m ∧ iv = .int .i64 i ∧ lv = .int .i64 lg ∧ lg ≤ i * 140737488355328 ∧ Hid (∀ j (h : j < W.length), j < i → W[j].rg.size ≤ lg)) (fun _ iv => m - (intOf iv).toNat)
    case atStart => exact ⟨0, 0, Nat.zero_le _, rfl, rfl, by omega, fun j _ h => absurd h (by omega)⟩
    case round =>
      obtain ⟨lg, i, hi, rfl, rfl, hlg, HI⟩ := hrel
      by_cases hlt : i < m
      · have hlt' : (i : Int) < (m : Int) := by omega
        have hiW : i < W.length := by have := HM.out; omega
        obtain rfl := HW1.out (by omega)
        have c1 := HW5.out i hiW
        obtain ⟨r, hr⟩ : ∃ r, r = W[i].rg := ⟨_, rfl⟩
        rw [← hr] at c1
        have hrs : r.size ≤ 140737488355328 := by rw [hr]; exact HFW.out _ (List.getElem_mem _)
        have HI2 : Hid (∀ j (h : j < W.length), j < i + 1 → W[j].rg.size ≤ lg + r.size) := fun j hj h => by
          by_cases e : j = i
          · subst e; rw [hr]; omega
          · have := HI.out j hj (by omega); omega
        have hi100 : i < 100 := by have := HT.out; omega
        obtain ⟨l2, hl2⟩ : ∃ l2, l2 = lg + r.size := ⟨_, rfl⟩
        have hw2 : IntKind.i64.wrap ((lg : Int) + (r.size : Int)) = (l2 : Int) := by rw [IntKind.wrap_i64]; omega
        have hl2b : l2 ≤ (i + 1) * 140737488355328 := by omega
        rw [← hl2] at HI2
        clear hr hl2
        go_wp2
        go_round
        case rel => exact ⟨l2, i + 1, by omega, by go_num, rfl, hl2b, HI2⟩
        case measure => simp [intOf]; omega
      · have hlt' : ¬ (i : Int) < (m : Int) := by omega
        have hi100 : i < 100 := by have := HT.out; omega
        have HWs : Hid (∀ n ∈ W, n.rg.size ≤ lg) := fun n hn => by
          obtain ⟨j, hj, rfl⟩ := List.getElem_of_mem hn
          exact HI.out j hj (by have := HM.out; omega)
        have hlg2 : lg ≤ t * 140737488355328 := Nat.le_trans hlg (Nat.mul_le_mul_right _ (by have := HT.out; omega))
        have H0 : Hid (t < 100 → ∃ l2 : Nat, (lg : Int) = (l2 : Int) ∧ l2 ≤ t * 140737488355328 ∧ lg ≤ l2 ∧ ∀ j (h : j < L.length), j < 0 → L[j].nd.length ≤ t ∧ ∀ x ∈ L[j].nd, x.rg.size ≤ l2) := fun _ => ⟨lg, rfl, hlg2, Nat.le_refl _, fun j _ h => absurd h (by omega)⟩
        clear HI hlg hlg2
        go_wp2
        clear hlt hlt'
        go_loop [5, 6, 8] (fun sv lv iv => ∃ (s i : Nat) (z : Int), i ≤ n ∧ iv = .int .i64 i ∧ sv = .int .i64 s ∧ lv = .int .i64 z ∧ t ≤ s ∧ s ≤ 140737488355528 ∧ Hid (s < 100 → ∃ l2 : Nat, z = (l2 : Int) ∧ l2 ≤ s * 140737488355328 ∧ lg ≤ l2 ∧ ∀ j (h : j < L.length), j < i → L[j].nd.length ≤ s ∧ ∀ x ∈ L[j].nd, x.rg.size ≤ l2)) (fun _ _ iv => n - (intOf iv).toNat)
        case atStart => exact ⟨t, 0, _, Nat.zero_le _, rfl, rfl, rfl, Nat.le_refl _, by omega, H0⟩
        case round =>
          obtain ⟨s, j, z, hj, rfl, rfl, rfl, hts, hsl, HJ⟩ := hrel
          clear H0
          by_cases hjn : j < n
          · have hjn' : (j : Int) < (n : Int) := by omega
            by_cases hs : s < 100
            · have hs' : (s : Int) < 100 := by omega
              have hjL : j < L.length := by have := HN.out; omega
              obtain ⟨g, off, na, nc, rfl, c2, hcn⟩ := HAt.out j hjL
              obtain ⟨l2, rfl, hl2, hll, hlj⟩ := HJ.out hs
              have HLj : Hid (∀ q (h : q < L.length), q < j → L[q].nd.length ≤ s ∧ ∀ x ∈ L[q].nd, x.rg.size ≤ l2) := hlj
              have hnl0 := HND.out _ (List.getElem_mem hjL)
              have HCn : Hid (0 < L[j].nd.length → ∃ ng noff, na = some ⟨ng, noff, none⟩ ∧ ∀ q (h : q < L[j].nd.length), w.cell? ⟨ng, noff + q * 2 + 1, none⟩ = some (.string L[j].nd[q].rg)) := hcn
              have HFj : Hid (∀ x ∈ L[j].nd, x.rg.size ≤ 140737488355328) := HFn.out _ (List.getElem_mem hjL)
              obtain ⟨N, hNN⟩ : ∃ N, N = L[j].nd := ⟨_, rfl⟩
              have HNN : Hid (N = L[j].nd) := hNN
              rw [← hNN] at c2 hnl0 HCn HFj
              obtain ⟨nl, hnl⟩ : ∃ nl, nl = N.length := ⟨_, rfl⟩
              have HNl : Hid (nl = N.length) := hnl
              rw [← hnl] at c2 hnl0
              obtain ⟨s2, hs2⟩ : ∃ s2, s2 = s + nl := ⟨_, rfl⟩
              have hw2 : IntKind.i64.wrap ((s : Int) + (nl : Int)) = (s2 : Int) := by rw [IntKind.wrap_i64]; omega
              have HS2 : Hid (s2 = s + nl) := hs2
              have hs2l : s2 ≤ 140737488355528 := by omega
              have hts2 : t ≤ s2 := by omega
              have hs2s : s ≤ s2 := by omega
              clear hcn hlj hNN hnl hs2
              by_cases hb : s2 < 100
              · go_wp2
                clear hw2
                go_loop [6, 9] (fun lv kv => ∃ (l3 k : Nat), k ≤ nl ∧ kv = .int .i64 k ∧ lv = .int .i64 l3 ∧ l3 ≤ (s + k) * 140737488355328 ∧ l2 ≤ l3 ∧ Hid (∀ q (h : q < N.length), q < k → N[q].rg.size ≤ l3)) (fun _ kv => nl - (intOf kv).toNat)
                case atStart => exact ⟨l2, 0, Nat.zero_le _, rfl, rfl, hl2, Nat.le_refl _, fun q _ h => absurd h (by omega)⟩
                case round =>
                  obtain ⟨l3, k, hk, rfl, rfl, hl3, hl23, HK⟩ := hrel
                  by_cases hkn : k < nl
                  · have hkn' : (k : Int) < (nl : Int) := by omega
                    have hkN : k < N.length := by have := HNl.out; omega
                    obtain ⟨ng, noff, rfl, hcc⟩ := HCn.out (by omega)
                    have c1 := hcc k hkN
                    obtain ⟨r, hr⟩ : ∃ r, r = N[k].rg := ⟨_, rfl⟩
                    rw [← hr] at c1
                    have hrs : r.size ≤ 140737488355328 := by rw [hr]; exact HFj.out _ (List.getElem_mem _)
                    obtain ⟨l4, hl4⟩ : ∃ l4, l4 = l3 + r.size := ⟨_, rfl⟩
                    have hsk : s + k ≤ 100 := by have := HS2.out; omega
                    have hl3b : l3 ≤ 100 * 140737488355328 := Nat.le_trans hl3 (Nat.mul_le_mul_right _ hsk)
                    have hw3 : IntKind.i64.wrap ((l3 : Int) + (r.size : Int)) = (l4 : Int) := by rw [IntKind.wrap_i64]; omega
                    have hl4b : l4 ≤ (s + (k + 1)) * 140737488355328 := by
                      have e : (s + (k + 1)) * 140737488355328 = (s + k) * 140737488355328 + 140737488355328 := by rw [← Nat.add_assoc, Nat.add_mul _ 1, Nat.one_mul]
                      rw [e]
                      omega
                    have hl24 : l2 ≤ l4 := by omega
                    have HK2 : Hid (∀ q (h : q < N.length), q < k + 1 → N[q].rg.size ≤ l4) := fun q hq h => by
                      by_cases e : q = k
                      · subst e; rw [hl4, hr]; omega
                      · have := HK.out q hq (by omega); omega
                    clear hr hl4 hcc hl3
                    go_wp2
                    go_round
                    case rel => exact ⟨l4, k + 1, by omega, by go_num, rfl, hl4b, hl24, HK2⟩
                    case measure => simp [intOf]; omega
                  · have hkn' : ¬ (k : Int) < (nl : Int) := by omega
                    obtain rfl : k = nl := by omega
                    have HJ2 : Hid (s2 < 100 → ∃ l2 : Nat, (l3 : Int) = (l2 : Int) ∧ l2 ≤ s2 * 140737488355328 ∧ lg ≤ l2 ∧ ∀ q (h : q < L.length), q < j + 1 → L[q].nd.length ≤ s2 ∧ ∀ x ∈ L[q].nd, x.rg.size ≤ l2) := fun _ => by
                      refine ⟨l3, rfl, by rw [HS2.out]; exact hl3, by omega, fun q hq hqj => ?_⟩
                      by_cases e : q = j
                      · subst e
                        rw [← HNN.out]
                        refine ⟨by have := HNl.out; have := HS2.out; omega, fun x hx => ?_⟩
                        obtain ⟨y, hy, rfl⟩ := List.getElem_of_mem hx
                        exact HK.out y hy (by have := HNl.out; omega)
                      · obtain ⟨k1, k2⟩ := HLj.out q hq (by omega)
                        exact ⟨by omega, fun x hx => Nat.le_trans (k2 x hx) hl23⟩
                    go_wp2
                    go_round
                    case rel => exact ⟨s2, j + 1, _, by omega, by go_num, rfl, rfl, hts2, hs2l, HJ2⟩
                    case measure => simp [intOf]; omega
              · go_wp2
                clear hw2
                go_loop [6, 9] (fun lv kv => ∃ (z : Int) (k : Nat), k ≤ nl ∧ kv = .int .i64 k ∧ lv = .int .i64 z) (fun _ kv => nl - (intOf kv).toNat)
                case atStart => exact ⟨l2, 0, Nat.zero_le _, rfl, rfl⟩
                case round =>
                  obtain ⟨z, k, hk, rfl, rfl⟩ := hrel
                  by_cases hkn : k < nl
                  · have hkn' : (k : Int) < (nl : Int) := by omega
                    have hkN : k < N.length := by have := HNl.out; omega
                    obtain ⟨ng, noff, rfl, hcc⟩ := HCn.out (by omega)
                    have c1 := hcc k hkN
                    obtain ⟨r, hr⟩ : ∃ r, r = N[k].rg := ⟨_, rfl⟩
                    rw [← hr] at c1
                    have hrs : r.size ≤ 140737488355328 := by rw [hr]; exact HFj.out _ (List.getElem_mem _)
                    clear hr hcc
                    go_wp2
                    go_round
                    case rel => exact ⟨_, k + 1, by omega, by go_num, rfl⟩
                    case measure => simp [intOf]; omega
                  · have hkn' : ¬ (k : Int) < (nl : Int) := by omega
                    have HJ2 : Hid (s2 < 100 → ∃ l2 : Nat, z = (l2 : Int) ∧ l2 ≤ s2 * 140737488355328 ∧ lg ≤ l2 ∧ ∀ q (h : q < L.length), q < j + 1 → L[q].nd.length ≤ s2 ∧ ∀ x ∈ L[q].nd, x.rg.size ≤ l2) := fun h => absurd h hb
                    go_wp2
                    go_round
                    case rel => exact ⟨s2, j + 1, _, by omega, by go_num, rfl, rfl, hts2, hs2l, HJ2⟩
                    case measure => simp [intOf]; omega
            · have hs' : ¬ (s : Int) < 100 := by omega
              have HB0 : Hid (FpR RP (.returned (.bool false)) w) := HRF.out w (Below.refl _ _)
              go_wp2
              go_ret
              exact HB0.out
          · have hjn' : ¬ (j : Int) < (n : Int) := by omega
            have HB0 : Hid (FpR RP (.returned (.bool false)) w) := HRF.out w (Below.refl _ _)
            by_cases hs : s < 100
            · have hs' : (s : Int) < 100 := by omega
              obtain ⟨l2, rfl, hl2, hll, hlj⟩ := HJ.out hs
              by_cases hl2k : l2 < 2000
              · have hl2k' : (l2 : Int) < 2000 := by omega
                have HFew : Hid (FewOk L W) := ⟨by have := HN.out; have := HT.out; omega, by have := HM.out; have := HT.out; omega, fun p hp => by
                  obtain ⟨q, hq, rfl⟩ := List.getElem_of_mem hp
                  have := (hlj q hq (by have := HN.out; omega)).1
                  omega, fun x hx => by have := HWs.out x hx; omega, fun p hp x hx => by
                  obtain ⟨q, hq, rfl⟩ := List.getElem_of_mem hp
                  have := (hlj q hq (by have := HN.out; omega)).2 x hx
                  omega⟩
                have hch := choices_ok w HPk.out (by have := HN.out; have := HT.out; omega) HFv.out
                rw [← HN.out] at hch
                clear hlj hl2
                go_wp2_with fail
                refine hch.mono ?_
                rintro e w9 ⟨z, rfl, hb9⟩
                have HF9 : Hid (∀ b, FpR RP (.returned (.bool b)) w9) := fun b => HRT.out b w9 (fun _ => HFew.out) hb9
                clear hch hb9
                go_wp2
                go_ret
                exact HF9.out _
              · have hl2k' : ¬ (l2 : Int) < 2000 := by omega
                clear hlj hl2
                go_wp2
                go_ret
                exact HB0.out
            · have hs' : ¬ (s : Int) < 100 := by omega
              go_wp2
              go_ret
              exact HB0.out
  · have h100' : ¬ (t : Int) < 100 := by omega
    have HB0 : Hid (FpR RP (.returned (.bool false)) w) := HRF.out w (Below.refl _ _)
    go_wp2
    clear hwt
    go_loop [6, 7] (fun lv iv => ∃ (z : Int) (i : Nat), i ≤ m ∧ iv = .int .i64 i ∧ lv = .int .i64 z) (fun _ iv => m - (intOf iv).toNat)
    case atStart => exact ⟨0, 0, Nat.zero_le _, rfl, rfl⟩
    case round =>
      obtain ⟨z, i, hi, rfl, rfl⟩ := hrel
      by_cases hlt : i < m
      · have hlt' : (i : Int) < (m : Int) := by omega
        have hiW : i < W.length := by have := HM.out; omega
        obtain rfl := HW1.out (by omega)
        have c1 := HW5.out i hiW
        obtain ⟨r, hr⟩ : ∃ r, r = W[i].rg := ⟨_, rfl⟩
        rw [← hr] at c1
        have hrs : r.size ≤ 140737488355328 := by rw [hr]; exact HFW.out _ (List.getElem_mem _)
        clear hr
        go_wp2
        go_round
        case rel => exact ⟨_, i + 1, by omega, by go_num, rfl⟩
        case measure => simp [intOf]; omega
      · have hlt' : ¬ (i : Int) < (m : Int) := by omega
        go_wp2
        go_loop [5, 6, 8] (fun sv lv iv => sv = .int .i64 t ∧ lv = .int .i64 z ∧ iv = .int .i64 0) (fun _ _ _ => 0)
        case atStart => exact ⟨rfl, rfl, rfl⟩
        case round =>
          obtain ⟨rfl, rfl, rfl⟩ := hrel
          by_cases h0 : 0 < n
          · have h0' : (0 : Int) < (n : Int) := by omega
            go_wp2
            go_ret
            exact HB0.out
          · have h0' : ¬ (0 : Int) < (n : Int) := by omega
            go_wp2
            go_ret
            exact HB0.out
end Go.Proofs.YtkbhckjpmgkgjaaGreatDoor
namespace Go.Proofs.YtkbhckjpmgkgjaaGreatDoor
open Go.RowKit

theorem names16_ok (w : World) : Calls Tryz.prog 24 #[] w fun e w' => e = .returned (.bool true) ∧ w' = w := by
  go_enter Tryz.func24, Tryz.ntmps24
  go_wp2
  go_ret
  exact ⟨rfl, rfl⟩
theorem infoPiz : (Tryz.prog.info? 82).map (fun i => (i.zero, i.size, i.bytes)) = some (some (.agg zeroNd), 2, 32) := by kernel_rfl
theorem own_zeroP (w : World) : (w.alloc (.cells #[] 82)).ownsRow w.heap.size 82 2 (.slice (some ⟨w.heap.size, 0, none⟩) 0 0) 0 [] :=
  ⟨rfl, Or.inr ⟨w.heap.size, 0, #[], rfl, Nat.le_refl _, heap_alloc_new w _, Nat.le_refl _, by unfold maxLen; omega, rfl, rfl⟩⟩
theorem picks_own {w : World} {B : Nat} {v : Value} {L : List Ned} (h : w.ownsRow B 82 2 v L.length (flatN L)) : NeedsIn w v L := by
  have h' := h
  obtain ⟨_, ⟨rfl, h0⟩ | ⟨g, cap, cur, rfl, _, hr, hc, _⟩⟩ := h
  · exact ⟨none, 0, 0, 0, by rw [h0], by omega, fun h => absurd h (by omega), fun _ => rfl, fun i hi => absurd hi (by omega)⟩
  · refine ⟨some ⟨g, 0, none⟩, g, 0, cap, rfl, hc, fun _ => ⟨rfl, (Array.getElem?_eq_some_iff.1 hr).1⟩, (fun h => by cases h), fun i hi j u hj => ?_⟩
    have hj2 : j < 2 := (List.getElem?_eq_some_iff.1 hj).1
    rw [Nat.zero_add, h'.cellAt (i * 2 + j) (by omega), flatN_at L i hi j hj2]
    exact hj
set_option maxRecDepth 40000 in
set_option maxHeartbeats 16000000 in
theorem law_checks {L : List Pak} {W P : List Ned} {pa wa qa : Option Addr} {pc wc qc : Nat} (w : World) (hL : PacksIn w (.slice pa L.length pc) L) (hF : FitP L) (hl : L.length ≤ 140737488355328) (hnd : ∀ p ∈ L, p.nd.length ≤ 140737488355328) (hW : NeedsIn w (.slice wa W.length wc) W) (hFW : FitN W) (hwl : W.length ≤ 140737488355328) (hP : NeedsIn w (.slice qa P.length qc) P) (hFP : FitN P) (hpl : P.length ≤ 140737488355328) (hT : Pw w) : Calls Tryz.prog 6 #[.slice pa L.length pc, .slice wa W.length wc, .slice qa P.length qc] w fun e w' => e = .returned (.bool true) ∧ Below w.heap.size w w' := by
  have hfew := few16_ok w hL hW hl hnd hF hwl hFW
  have HLp : Hid (∀ wx, Below w.heap.size w wx → PacksIn wx (.slice pa L.length pc) L) := fun wx hx => hL.keep (Nat.le_refl _) hx
  have HWp : Hid (∀ wx, Below w.heap.size w wx → NeedsIn wx (.slice wa W.length wc) W) := fun wx hx => hW.keep (Nat.le_refl _) hx
  have HPp : Hid (∀ wx, Below w.heap.size w wx → NeedsIn wx (.slice qa P.length qc) P) := fun wx hx => hP.keep (Nat.le_refl _) hx
  have HF : Hid (FitP L) := hF
  have HFW : Hid (FitN W) := hFW
  have HFP : Hid (FitN P) := hFP
  have HND : Hid (∀ p ∈ L, p.nd.length ≤ 140737488355328) := hnd
  have HT : Hid (Pw w) := hT
  obtain ⟨ln, hln⟩ : ∃ n, n = L.length := ⟨_, rfl⟩
  have HLn : Hid (ln = L.length) := hln
  obtain ⟨m, hm⟩ : ∃ m, m = W.length := ⟨_, rfl⟩
  have HM : Hid (m = W.length) := hm
  obtain ⟨n, hn⟩ : ∃ n, n = P.length := ⟨_, rfl⟩
  have HN : Hid (n = P.length) := hn
  rw [← hln, ← hm] at hfew
  rw [← hn] at hpl
  rw [← hln, ← hm, ← hn]
  clear hL hF hl hnd hW hFW hwl hP hFP hT hln hm hn
  go_enter Tryz.func6, Tryz.ntmps6
  go_wp2_with fail
  refine hfew.mono ?_
  rintro e w1 ⟨b, rfl, hb, hb1⟩
  have HB1 : Hid (Below w.heap.size w w1) := hb1
  clear hfew hb1
  cases b with
  | false =>
    clear hb
    go_wp2
    go_ret
    exact ⟨rfl, HB1.out⟩
  | true =>
    have HFew : Hid (FewOk L W) := hb rfl
    clear hb
    by_cases h100 : 100 < n
    · have h100' : (100 : Int) < (n : Int) := by omega
      go_wp2
      go_ret
      exact ⟨rfl, HB1.out⟩
    · have h100' : ¬ (100 : Int) < (n : Int) := by omega
      have hown := own_ok (L := L) w1 (HLp.out w1 HB1.out) (by have := HFew.out.l; omega) (fun p hp => by have := HFew.out.nd p hp; omega)
      rw [← HLn.out] at hown
      go_wp2_with fail
      refine hown.mono ?_
      rintro e w2 ⟨ov, D, rfl, hD, hO⟩
      have HB2 : Hid (Below w.heap.size w w2) := HB1.out.trans (hO.old.mono HB1.out.size)
      have hDn : D.length = ln := by have h := congrArg List.length hD; rw [List.length_map] at h; have := HLn.out; omega
      have hpk2 := hO.packs
      rw [hD] at hpk2
      obtain ⟨oa, oc, rfl⟩ := slice_of hO.own
      rw [hDn] at hpk2 ⊢
      have HO2 : Hid (∀ wx, Below w2.heap.size w2 wx → PacksIn wx (.slice oa ln oc) L) := fun wx hx => hpk2.keep (Nat.le_refl _) hx
      have hba : Below w2.heap.size w2 (w2.alloc (.cells #[] 61)) := (Below.refl _ _).alloc (Nat.le_refl _) _
      obtain ⟨wb, woff, hq1, hq2, hq3⟩ := needs_src (HWp.out _ (HB2.out.trans (hba.mono HB2.out.size))) rfl
      rw [← HM.out] at hq1 hq3
      have HQ1 : Hid (0 < m → wa = some ⟨wb, woff, none⟩) := hq1
      have HQ2 : Hid (∀ j u, (flatN W)[j]? = some u → (w2.alloc (.cells #[] 61)).cell? ⟨wb, woff + j, none⟩ = some u) := hq2
      have HQ3 : Hid (wa = none → m = 0 ∧ wc = 0) := hq3
      have HFl : Hid ((flatN W).length = m * 2) := by show _ = _; rw [flatN_len, ← HM.out]
      have HOZ : Hid ((w2.alloc (.cells #[] 61)).ownsRow w2.heap.size 61 2 (.slice (some ⟨w2.heap.size, 0, none⟩) 0 0) 0 []) := own_zero w2
      have HBa : Hid (Below w2.heap.size w2 (w2.alloc (.cells #[] 61))) := hba
      have hm100 : m < 100 := by have := HFew.out.w; have := HM.out; omega
      clear hown hD hO hDn hpk2 hba hq1 hq2 hq3
      go_wp2_with (first | (at_builtin; refine wpList_plain rfl fun K' hK' => ?_; refine wp_append_any (some 20) rfl _ _ 42 61 (.agg zeroNd) 2 32 Tryz.underlying42 infoNdz rfl (by decide) rfl w2.heap.size (.slice (some ⟨w2.heap.size, 0, none⟩) 0 0) 0 [] rfl HOZ.out wa wb woff m wc (flatN W) HFl.out rfl HQ1.out HQ2.out (flatN_one W) HQ3.out (by unfold maxLen; omega) (by omega) HBa.out.size ?_; intro v6 w6 ho6 hg6 _; refine hK' _ _ ?_; have HB6 : Hid (Below w2.heap.size w2 w6) := HBa.out.trans (below_own' hg6 HBa.out.size fun k hk => (own_block HOZ.out k hk).1); rw [Nat.zero_add, List.nil_append] at ho6; obtain ⟨ta, tc, hv6⟩ := slice_of ho6; subst hv6; have HO6 : Hid (w6.ownsRow w2.heap.size 61 2 (.slice ta m tc) m (flatN W)) := ho6; have hbp : Below w6.heap.size w6 (w6.alloc (.cells #[] 82)) := (Below.refl _ _).alloc (Nat.le_refl _) _; obtain ⟨pb, poff, hp1, hp2, hp3⟩ := needs_src (HPp.out _ ((HB2.out.trans (HB6.out.mono HB2.out.size)).trans (hbp.mono (HB2.out.trans (HB6.out.mono HB2.out.size)).size))) rfl; rw [← HN.out] at hp1 hp3; have HR1 : Hid (0 < n → qa = some ⟨pb, poff, none⟩) := hp1; have HR2 : Hid (∀ j u, (flatN P)[j]? = some u → (w6.alloc (.cells #[] 82)).cell? ⟨pb, poff + j, none⟩ = some u) := hp2; have HR3 : Hid (qa = none → n = 0 ∧ qc = 0) := hp3; have HFl2 : Hid ((flatN P).length = n * 2) := (flatN_len P).trans (by rw [← HN.out]); have HPZ : Hid ((w6.alloc (.cells #[] 82)).ownsRow w6.heap.size 82 2 (.slice (some ⟨w6.heap.size, 0, none⟩) 0 0) 0 []) := own_zeroP w6; have HBp : Hid (Below w6.heap.size w6 (w6.alloc (.cells #[] 82))) := hbp; clear ho6 hg6 hbp hp1 hp2 hp3) | (at_builtin; refine wpList_plain rfl fun K' hK' => ?_; refine wp_append_any (some 23) rfl _ _ 45 82 (.agg zeroNd) 2 32 Tryz.underlying45 infoPiz rfl (by decide) rfl w6.heap.size (.slice (some ⟨w6.heap.size, 0, none⟩) 0 0) 0 [] rfl HPZ.out qa pb poff n qc (flatN P) HFl2.out rfl HR1.out HR2.out (flatN_one P) HR3.out (by unfold maxLen; omega) (by omega) HBp.out.size ?_; intro v7 w7 ho7 hg7 _; refine hK' _ _ ?_; have HB7 : Hid (Below w6.heap.size w6 w7) := HBp.out.trans (below_own' hg7 HBp.out.size fun k hk => (own_block HPZ.out k hk).1); rw [Nat.zero_add, List.nil_append] at ho7; obtain ⟨ra, rc, hv7⟩ := slice_of ho7; subst hv7; have HO7 : Hid (w7.ownsRow w6.heap.size 82 2 (.slice ra n rc) n (flatN P)) := ho7; clear ho7 hg7) | fail)
      have HB7w : Hid (Below w2.heap.size w2 w7) := HB6.out.trans (HB7.out.mono HB6.out.size)
      have hN7 : NeedsIn w7 (.slice ta W.length tc) W := by
        have h := HO6.out
        rw [HM.out] at h
        exact (needs_own h).keep (Nat.le_refl _) HB7.out
      have hP7 : NeedsIn w7 (.slice ra P.length rc) P := by
        have h := HO7.out
        rw [HN.out] at h
        exact picks_own h
      have hck := check_ok (L := L) w7 (HO2.out w7 HB7w.out) hN7 hP7 ⟨by have := HFew.out.l; omega, HF.out, HFW.out, by have := HN.out; omega, fun q hq => (HFP.out q hq).2⟩ (HT.out.keep (HB2.out.trans (HB7w.out.mono HB2.out.size)) HT.out.lt)
      rw [← HM.out, ← HN.out] at hck
      have HB7f : Hid (Below w.heap.size w w7) := HB2.out.trans (HB7w.out.mono HB2.out.size)
      obtain ⟨R, hR⟩ : ∃ R, R = checkE L W P := ⟨_, rfl⟩
      have HR : Hid (R = checkE L W P) := hR
      rw [← hR] at hck
      clear hN7 hP7 hR HO6 HO7 HPZ HOZ HQ1 HQ2 HQ3 HR1 HR2 HR3
      refine hck.mono ?_
      rintro e w8 ⟨rfl, hb8⟩
      have HB8 : Hid (Below w.heap.size w w8) := HB7f.out.trans (hb8.mono HB7f.out.size)
      have hrc := refCheck_ok (L := L) (W := W) (P := P) w8 (HLp.out w8 HB8.out) (fun p hp => ⟨(HF.out p hp).1, (HF.out p hp).2.1, fun x hx => ⟨((HF.out p hp).2.2 x hx).1, by have := HFew.out.ns p hp x hx; omega⟩⟩) (by have := HFew.out.l; omega) HND.out (HWp.out w8 HB8.out) (fun x hx => ⟨(HFW.out x hx).1, by have := HFew.out.ws x hx; omega⟩) (by have := HFew.out.w; omega) (HPp.out w8 HB8.out) (by have := HN.out; omega)
      rw [← HLn.out, ← HM.out, ← HN.out, ← HR.out] at hrc
      clear hck hb8
      go_wp2_with fail
      refine hrc.mono ?_
      rintro e w9 ⟨rfl, hb9⟩
      have HB9 : Hid (Below w.heap.size w w9) := HB8.out.trans (hb9.mono HB8.out.size)
      have hnm := names16_ok w9
      clear hrc hb9
      go_wp2_with fail
      refine hnm.mono ?_
      rintro e w10 ⟨rfl, hw10⟩
      rw [hw10]
      clear hw10 hnm
      go_wp2
      go_ret
      exact ⟨rfl, HB9.out⟩
end Go.Proofs.YtkbhckjpmgkgjaaGreatDoor
