/- The walk of After. -/
import Derived.Test.YtdbnnljlbfjobaaGreatDoorRedo
import Derived.Test.YtdbnnljlbfjobaaGreatDoorNd
namespace Go.Proofs.YtdbnnljlbfjobaaGreatDoor
open Go.RowKit

/-- The bytes behind a power loss, the first i events done. -/
def afterF (F : Nat → Int) (E : Nat → Ev) (sf klen : Nat) (kf : Nat → Bool) : Nat → Nat → Int
  | 0 => F
  | i + 1 => if i < sf ∨ keptB klen kf (i - sf) = true then redoF (E i) (afterF F E sf klen kf i) else afterF F E sf klen kf i

section
variable {ops : Array Oper} {rest : List Oper} {o : Oper} {a : Act} {w : World} {Q : Exit → Act → World → Prop}
theorem wpList_sliceTo (hgd : o.guard = none) (t : TypeId) (x y : Operand) (ho : o.op = .slice t x none (some y) none) (v : Value) (hr : (Instr.sliceAt t (a.eval x) none (some (a.eval y)) none).run Tryz.prog w = .ok v w)
    (k : wpList Tryz.prog ops Q rest (a.put o.dst v) w) : wpList Tryz.prog ops Q (o :: rest) a w :=
  wpList_plain hgd fun K hK => by
    unfold Oper.wp execOp
    simp only [ho, Option.map_none, Option.map_some, Sem.run_bind, hr, Result.andThen_ok]
    exact hK _ _ k
end

theorem redoF_bd {s : Nat} (e : Ev) (he : e.ok s) (F : Nat → Int) (hF : ∀ i, 0 ≤ F i ∧ F i < 256) : ∀ i, 0 ≤ redoF e F i ∧ redoF e F i < 256 := fun i => by
  unfold redoF
  split
  · exact hF i
  · unfold over
    split
    · exact he.1 _
    · exact hF i
theorem afterF_bd {s : Nat} (F : Nat → Int) (E : Nat → Ev) (sf klen : Nat) (kf : Nat → Bool) (k : Nat) (hE : ∀ i, i < k → (E i).ok s) (hF : ∀ i, 0 ≤ F i ∧ F i < 256) : ∀ i, i ≤ k → ∀ j, 0 ≤ afterF F E sf klen kf i j ∧ afterF F E sf klen kf i j < 256 := by
  intro i
  induction i with
  | zero => exact fun _ => hF
  | succ i ih =>
    intro hi
    unfold afterF
    split
    · exact redoF_bd (E i) (hE i (by omega)) _ (ih (by omega))
    · exact ih (by omega)

set_option maxRecDepth 20000 in
set_option maxHeartbeats 4000000 in
theorem after_core {w : World} {base g g1 c1 g2 c2 : Nat} {D : Dk} (a : Option Addr) (n c : Nat) (hD : DiskAt w base g g1 c1 g2 c2 (.slice a n c) D) (k : Nat) (hk : k ≤ n) (hn : n ≤ 1000000) (a' : Option Addr) (g3 c' : Nat) (E : Nat → Ev)
    (hsl : ∀ w, (Instr.sliceAt 58 (.slice a n c) none (some (.int .i64 k)) none).run Tryz.prog w = .ok (.slice a' k c') w) (hE : Evs w a' g3 k D.s E)
    (ka : Option Addr) (kb koff klen kcap : Nat) (kf : Nat → Bool) (hK : Bl w ka kb koff klen kf) (hkl : klen ≤ 140737488351232) :
    Calls Tryz.prog 25 #[.pointer (some ⟨g, 0, none⟩), .int .i64 k, .slice ka klen kcap] w fun e w' => ∃ g' g1' c1' g2' c2', e = .returned (.tuple #[.pointer (some ⟨g', 0, none⟩), .int .i64 0]) ∧
      DiskAt w' w.heap.size g' g1' c1' g2' c2' (.slice none 0 0) (freshD D.s (afterF D.F E (safeN E k) klen kf k)) ∧ Below w.heap.size w w' := by
  have h0 := hD.ok.lo
  have h1 := hD.ok.hi
  have hF := hD.ok.F
  have H := made_yes g g2 (D.s * 256) c2 w hD.cell1 (by omega)
  have hc2 := hD.cell2
  have HL := flushed_any a' g3 k c' D.s E w hE (by omega)
  have hsf := safeN_le E k
  have hD' := hD
  have HD : Hid _ := hD
  have HE : Hid _ := hE
  have HK : Hid _ := hK
  have HF : Hid _ := hF
  have HS : Hid _ := hsl
  have hz := (zero_of_info info65).1
  have hz0 := evA_size zeroEv
  generalize evA zeroEv = Z at *
  generalize safeN E k = sf at *
  clear hD hE hK hF hsl
  go_enter Tryz.func25, Tryz.ntmps25
  go_wp2_with fail
  refine H.mono ?_
  rintro e w' ⟨rfl, hw'⟩
  subst w'
  clear H
  have hq1 : ¬ ((n : Int) < k) := by omega
  go_wp2_with (refine wpList_sliceTo rfl 58 _ _ rfl _ (HS.out _) ?_)
  refine HL.mono ?_
  rintro e w1 ⟨rfl, hb1⟩
  clear HL hc2
  have hs1 := hb1.size
  have hD1 := hD'.below hb1 (Nat.le_refl _)
  have hc0 := hD1.cell0
  have hB1 : Bs w1 (some ⟨g1, 0, none⟩) g1 0 (D.s * 256) D.F := ⟨fun _ => rfl, fun i hi => by rw [Nat.zero_add, hD1.first.cellAt i (by omega), byts_at _ _ _ hi], HF.out⟩
  have HC := clone_any g1 0 (D.s * 256) c1 D.F w1 hB1 (by omega) (by omega)
  clear hB1 hD1 hD'
  generalize hm : D.s * 256 = m at *
  have HM : Hid _ := hm
  clear hm
  go_wp2_with fail
  refine HC.mono ?_
  rintro e w2 ⟨gF, cF, rfl, own2, hb2⟩
  clear HC hc0
  have hb2' : Below w.heap.size w w2 := hb1.trans (hb2.mono hs1)
  have own2' : w2.ownsRow w.heap.size 5 1 (.slice (some ⟨gF, 0, none⟩) m cF) m (byts D.F m) := ownsRow_base own2 hs1
  have hgF : w.heap.size ≤ gF := (ownsRow_slice own2').1
  clear own2
  go_wp2
  go_loopw [42] (fun i wr => ∃ j : Nat, j ≤ k ∧ i = .int .i64 j ∧ Hid (wr.ownsRow w.heap.size 5 1 (.slice (some ⟨gF, 0, none⟩) m cF) m (byts (afterF D.F E sf klen kf j) m)) ∧ Below w.heap.size w wr) (fun i _ => k - (intOf i).toNat)
  case atStart => exact ⟨0, Nat.zero_le _, rfl, own2', hb2'⟩
  case round =>
    obtain ⟨j, hj, rfl, own, hb⟩ := hrel
    have hs := hb.size
    clear own2' hb2' hb2 hb1 hs1
    by_cases hlt : j < k
    · obtain rfl := HE.out.at' (by omega)
      have hEr := HE.out.belowAll hb
      have hrg := hEr.range j hlt
      have hok := hEr.ok j hlt
      have hel := info65c (E j)
      have hA : (E j).cells.toArray = evA (E j) := rfl
      have hAs := evA_size (E j)
      have hAo := evA_one (E j)
      have HRG : Hid _ := hrg
      have hi65 : (Tryz.prog.info? 101).map (·.size) = some (evA (E j)).size := by rw [hAs]; exact info65s
      have hbA : Below w.heap.size w (wr.alloc (.cells (evA (E j)) 101)) := hb.alloc hs _
      have hRA : Row (wr.alloc (.cells (evA (E j)) 101)) wr.heap.size (evA (E j)) 101 := Row.new wr _ 101
      have ownA : (wr.alloc (.cells (evA (E j)) 101)).ownsRow w.heap.size 5 1 (.slice (some ⟨gF, 0, none⟩) m cF) m (byts (afterF D.F E sf klen kf j) m) := World.ownsRow.alloc (show wr.ownsRow w.heap.size 5 1 _ m _ from own) _
      have HR : Calls Tryz.prog 64 #[.agg (evA (E j)), .slice (some ⟨gF, 0, none⟩) m cF] (wr.alloc (.cells (evA (E j)) 101)) fun r w' => (∃ v, r = .returned v) ∧ w'.ownsRow w.heap.size 5 1 (.slice (some ⟨gF, 0, none⟩) m cF) m (byts (redoF (E j) (afterF D.F E sf klen kf j)) m) ∧ Lone gF (wr.alloc (.cells (evA (E j)) 101)) w' := by
        have h := redo_any (base := w.heap.size) (gF := gF) (cF := cF) (s := D.s) (F := afterF D.F E sf klen kf j) (E j) hok (w := wr.alloc (.cells (evA (E j)) 101)) (by rw [show D.s * 256 = m from HM.out]; exact ownA)
        rw [show D.s * 256 = m from HM.out] at h
        exact h
      have hKA := HK.out.belowAll hbA
      have HOA : Hid _ := ownA
      have hst : afterF D.F E sf klen kf (j + 1) = if j < sf ∨ keptB klen kf (j - sf) = true then redoF (E j) (afterF D.F E sf klen kf j) else afterF D.F E sf klen kf j := rfl
      have HST : Hid _ := hst
      have HHR : Hid _ := HR
      clear hst hrg hok hEr ownA own HR
      generalize evA (E j) = A at *
      generalize hLL : (E j).cells = L at *
      by_cases hsj : j < sf
      · have hd : decide (j < sf ∨ keptB klen kf (j - sf) = true) = true := by simp [hsj]
        go_wp2_with (first
          | (refine wpList_load_mid rfl 101 _ rfl g3 (j * 257) rfl L _ HRG.out Tryz.underlying101 rfl hel ?_; rw [hA])
          | refine wpList_store_new rfl 101 _ _ rfl wr Z A 101 rfl wr.heap.size rfl rfl rfl hi65 (hz0.trans hAs.symm) hAo ?_
          | refine wpList_load_row rfl 101 _ rfl wr.heap.size rfl 101 A (0, 0) _ hRA Tryz.underlying101 rfl hi65 ?_)
        refine Calls.mono HHR.out ?_
        rintro e w3 ⟨⟨v, rfl⟩, own3, hl3⟩
        go_wp2
        go_roundw
        case rel => exact ⟨j + 1, by omega, by go_num, by show World.ownsRow _ _ _ _ _ _ _; rw [HST.out, if_pos (.inl hsj)]; exact own3, hbA.trans (hl3.to_below hgF (by simp; omega))⟩
        case measure => simp [intOf]; omega
      · have hKP := kept_any ka kb koff klen kcap (j - sf) kf (wr.alloc (.cells A 101)) hKA (by omega) (by omega)
        have hsub : (j : Int) - sf = ((j - sf : Nat) : Int) := by omega
        cases hkp : keptB klen kf (j - sf) with
        | true =>
          rw [hkp] at hKP
          go_wp2_with (first
            | (refine wpList_load_mid rfl 101 _ rfl g3 (j * 257) rfl L _ HRG.out Tryz.underlying101 rfl hel ?_; rw [hA])
            | refine wpList_store_new rfl 101 _ _ rfl wr Z A 101 rfl wr.heap.size rfl rfl rfl hi65 (hz0.trans hAs.symm) hAo ?_
            | refine wpList_load_row rfl 101 _ rfl wr.heap.size rfl 101 A (0, 0) _ hRA Tryz.underlying101 rfl hi65 ?_)
          refine hKP.mono ?_
          rintro e w' ⟨rfl, hw'⟩
          subst w'
          go_wp2_with (refine wpList_load_row rfl 101 _ rfl wr.heap.size rfl 101 A (0, 0) _ hRA Tryz.underlying101 rfl hi65 ?_)
          refine Calls.mono HHR.out ?_
          rintro e w3 ⟨⟨v, rfl⟩, own3, hl3⟩
          go_wp2
          go_roundw
          case rel => exact ⟨j + 1, by omega, by go_num, by show World.ownsRow _ _ _ _ _ _ _; rw [HST.out, if_pos (.inr hkp)]; exact own3, hbA.trans (hl3.to_below hgF (by simp; omega))⟩
          case measure => simp [intOf]; omega
        | false =>
          rw [hkp] at hKP
          go_wp2_with (first
            | (refine wpList_load_mid rfl 101 _ rfl g3 (j * 257) rfl L _ HRG.out Tryz.underlying101 rfl hel ?_; rw [hA])
            | refine wpList_store_new rfl 101 _ _ rfl wr Z A 101 rfl wr.heap.size rfl rfl rfl hi65 (hz0.trans hAs.symm) hAo ?_
            | refine wpList_load_row rfl 101 _ rfl wr.heap.size rfl 101 A (0, 0) _ hRA Tryz.underlying101 rfl hi65 ?_)
          refine hKP.mono ?_
          rintro e w' ⟨rfl, hw'⟩
          subst w'
          go_wp2
          go_roundw
          case rel => exact ⟨j + 1, by omega, by go_num, by show World.ownsRow _ _ _ _ _ _ _; rw [HST.out, if_neg (by rw [hkp]; simp; omega)]; exact HOA.out, hbA⟩
          case measure => simp [intOf]; omega
    · obtain rfl : j = k := by omega
      have HH : Calls Tryz.prog 26 #[.slice (some ⟨gF, 0, none⟩) m cF] wr fun e w' => ∃ g g2 c2, e = .returned (.pointer (some ⟨g, 0, none⟩)) ∧ DiskAt w' w.heap.size g gF cF g2 c2 (.slice none 0 0) (freshD D.s (afterF D.F E sf klen kf j)) ∧ Below wr.heap.size wr w' := by
        have h := holding_any w.heap.size gF cF D.s (afterF D.F E sf klen kf j) wr (by rw [show D.s * 256 = m from HM.out]; exact own) h0 h1 (afterF_bd D.F E sf klen kf j HE.out.ok HF.out j (Nat.le_refl _)) hs
        rw [show D.s * 256 = m from HM.out] at h
        exact h
      have HHH : Hid _ := HH
      clear HH own
      go_wp2_with fail
      refine Calls.mono HHH.out ?_
      rintro e w3 ⟨g', g2', c2', rfl, hD3, hb3⟩
      have HD3 : Hid _ := hD3
      clear hD3 HHH
      go_wp2
      go_ret2
      exact ⟨g', gF, cF, g2', c2', rfl, HD3.out, hb.trans (hb3.mono hs)⟩

/-- The events of a disk, by their number. -/
def Dk.ev (D : Dk) (i : Nat) : Ev := D.E.getD i flushEv
theorem DiskAt.evsAt {w : World} {base g g1 c1 g2 c2 : Nat} {D : Dk} {g3 n c : Nat} (hD : DiskAt w base g g1 c1 g2 c2 (.slice (some ⟨g3, 0, none⟩) n c) D) (k : Nat) (hk : k ≤ n) : Evs w (some ⟨g3, 0, none⟩) g3 k D.s D.ev := by
  obtain ⟨_, hn, _, _, _⟩ := ownsRow_slice hD.evs
  have hx : ∀ i, i < k → D.E[i]? = some (D.ev i) := fun i hi => by
    have : i < D.E.length := by omega
    rw [List.getElem?_eq_getElem this]
    simp [Dk.ev, List.getD, List.getElem?_eq_getElem this]
  refine ⟨fun _ => rfl, fun i hi j v hj => ?_, fun i hi => hD.ok.E _ (List.mem_of_getElem? (hx i hi))⟩
  have hj' : j < 257 := by rw [← Ev.cells_len (D.ev i)]; exact (List.getElem?_eq_some_iff.1 hj).1
  have hev := hD.evs
  rw [hn] at hev
  rw [hev.cellAt (i * 257 + j) (by omega), evCells_at D.E i (D.ev i) (hx i hi) j hj', hj]

/-- What After tells. -/
def Dk.after (D : Dk) (k klen : Nat) (kf : Nat → Bool) : Dk := freshD D.s (afterF D.F D.ev (safeN D.ev k) klen kf k)

theorem after_ok {w : World} {base g g1 c1 g2 c2 : Nat} {ev : Value} {D : Dk} (hD : DiskAt w base g g1 c1 g2 c2 ev D) (k : Nat) (hk : k ≤ D.E.length) (hn : D.E.length ≤ 1000000)
    (ka : Option Addr) (kb koff klen kcap : Nat) (kf : Nat → Bool) (hK : Bl w ka kb koff klen kf) (hkl : klen ≤ 140737488351232) :
    Calls Tryz.prog 25 #[.pointer (some ⟨g, 0, none⟩), .int .i64 k, .slice ka klen kcap] w fun e w' => ∃ g' g1' c1' g2' c2', e = .returned (.tuple #[.pointer (some ⟨g', 0, none⟩), .int .i64 0]) ∧
      DiskAt w' w.heap.size g' g1' c1' g2' c2' (.slice none 0 0) (D.after k klen kf) ∧ Below w.heap.size w w' := by
  have hev := hD.evs
  obtain ⟨_, ⟨rfl, h0⟩ | ⟨g3, c, cur, rfl, _, _, hc1, hc2, _⟩⟩ := hev
  · obtain rfl : k = 0 := by omega
    refine after_core none 0 0 hD 0 (Nat.le_refl _) (by omega) none 0 0 D.ev (fun w => ?_) ⟨fun h => absurd h (by omega), fun i hi => absurd hi (by omega), fun i hi => absurd hi (by omega)⟩ ka kb koff klen kcap kf hK hkl
    kernel_rfl
  · refine after_core (some ⟨g3, 0, none⟩) D.E.length c hD k hk hn (some ⟨g3, 0, none⟩) g3 c D.ev (fun w => ?_) (hD.evsAt k hk) ka kb koff klen kcap kf hK hkl
    have hkc : k ≤ c := by omega
    simp [Instr.sliceAt, Instr.slice, Instr.sliceBounds, Instr.sliceBound, run_underlying Tryz.underlying58, asIntOf, hkc, Addr.add]

theorem after_bad {w : World} {base g g1 c1 g2 c2 : Nat} {ev : Value} {D : Dk} (hD : DiskAt w base g g1 c1 g2 c2 ev D) (k : Int) (hk : k < 0 ∨ (D.E.length : Int) < k) (K : Value) :
    Calls Tryz.prog 25 #[.pointer (some ⟨g, 0, none⟩), .int .i64 k, K] w fun e w' => e = .returned (.tuple #[.pointer none, .int .i64 2]) ∧ w' = w := by
  have H := made_yes g g2 (D.s * 256) c2 w hD.cell1 (by have := hD.ok.lo; omega)
  have hc := hD.cell2
  obtain ⟨a, c, rfl⟩ : ∃ a c, ev = .slice a D.E.length c := by
    obtain ⟨_, ⟨h1, h2⟩ | ⟨g', c', cur, h1, _⟩⟩ := hD.evs
    · exact ⟨none, 0, by rw [h1, h2]⟩
    · exact ⟨_, _, h1⟩
  generalize D.E.length = n at *
  clear hD
  by_cases hk0 : k < 0
  · clear hk
    go_enter Tryz.func25, Tryz.ntmps25
    go_wp2_with fail
    refine H.mono ?_
    rintro e w' ⟨rfl, rfl⟩
    go_wp2
    go_ret2
    exact ⟨rfl, rfl⟩
  · have hk1 : (n : Int) < k := by omega
    clear hk
    go_enter Tryz.func25, Tryz.ntmps25
    go_wp2_with fail
    refine H.mono ?_
    rintro e w' ⟨rfl, rfl⟩
    go_wp2
    go_ret2
    exact ⟨rfl, rfl⟩
end Go.Proofs.YtdbnnljlbfjobaaGreatDoor
