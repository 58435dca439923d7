/- The walk of After. Sectors as texts; the mask of two bits; what a disk has behind a power loss of which nothing, or all, is kept. A journal in memory, and the calls that only look at it. -/
import Derived.Test.YtlbapnecmhlgmaaM5
import Derived.Laws.BytesArg
import Derived.WalkKit
import Derived.Test.YtlbapnecmhlgmaaM2
namespace Go.Proofs.Ytlbapnecmhlgmaa
open Go.RowKit

/-- The bytes behind a power loss, the first i events done. -/
def afterF (F : Nat → Int) (E : Nat → Ev) (sf klen : Nat) (kf : Nat → Bool) : Nat → Nat → Int
  | 0 => F
  | i + 1 => if i < sf ∨ keptB klen kf (i - sf) = true then redoF (E i) (afterF F E sf klen kf i) else afterF F E sf klen kf i

section
variable {ops : Array Oper} {rest : List Oper} {o : Oper} {a : Act} {w : World} {Q : Exit → Act → World → Prop}
theorem wpList_sliceTo (hgd : o.guard = none) (t : TypeId) (x y : Operand) (ho : o.op = .slice t x none (some y) none) (v : Value) (hr : (Instr.sliceAt t (a.eval x) none (some (a.eval y)) none).run Try.prog w = .ok v w)
    (k : wpList Try.prog ops Q rest (a.put o.dst v) w) : wpList Try.prog ops Q (o :: rest) a w :=
  wpList_plain hgd fun K hK => by
    unfold Oper.wp execOp
    simp only [ho, Option.map_none, Option.map_some, Sem.run_bind, hr, Result.andThen_ok]
    exact hK _ _ k
/-- A whole row stored into the block that was made last. -/
theorem wpList_store_new (hgd : o.guard = none) (ty : TypeId) (x y : Operand) (ho : o.op = .store ty x y) (W : World) (Z C : Array Value) (t : TypeId) (hw : w = W.alloc (.cells Z t)) (g : Nat) (hg : g = W.heap.size) (hx : a.eval x = .pointer (some ⟨g, 0, none⟩)) (hy : a.eval y = .agg C)
    (hi : (Try.prog.info? ty).map (·.size) = some C.size) (hs : Z.size = C.size) (h1 : C.all (·.oneCell') = true)
    (h : wpList Try.prog ops Q rest (a.put o.dst undef) (W.alloc (.cells C t))) : wpList Try.prog ops Q (o :: rest) a w := by
  subst hw
  subst hg
  refine wpList_store_row hgd ty x y ho W.heap.size C hx hy t Z (heap_alloc_new W _) hi hs h1 ?_
  rw [World.setRow_alloc_new]
  exact h
end

theorem redoF_bd {s : Nat} (e : Ev) (he : e.ok s) (F : Nat → Int) (hF : ∀ i, 0 ≤ F i ∧ F i < 256) : ∀ i, 0 ≤ redoF e F i ∧ redoF e F i < 256 := fun i => by
  unfold redoF
  split
  · exact hF i
  · unfold over
    split
    · exact he.1 _
    · exact hF i
theorem afterF_bd {s : Nat} (F : Nat → Int) (E : Nat → Ev) (sf klen : Nat) (kf : Nat → Bool) (k : Nat) (hE : ∀ i, i < k → (E i).ok s) (hF : ∀ i, 0 ≤ F i ∧ F i < 256) : ∀ i, i ≤ k → ∀ j, 0 ≤ afterF F E sf klen kf i j ∧ afterF F E sf klen kf i j < 256 := by
  intro i
  induction i with
  | zero => exact fun _ => hF
  | succ i ih =>
    intro hi
    unfold afterF
    split
    · exact redoF_bd (E i) (hE i (by omega)) _ (ih (by omega))
    · exact ih (by omega)

set_option maxRecDepth 20000 in
set_option maxHeartbeats 4000000 in
theorem after_core {w : World} {base g g1 c1 g2 c2 : Nat} {D : Dk} (a : Option Addr) (n c : Nat) (hD : DiskAt w base g g1 c1 g2 c2 (.slice a n c) D) (k : Nat) (hk : k ≤ n) (hn : n ≤ 1000000) (a' : Option Addr) (g3 c' : Nat) (E : Nat → Ev)
    (hsl : ∀ w, (Instr.sliceAt 62 (.slice a n c) none (some (.int .i64 k)) none).run Try.prog w = .ok (.slice a' k c') w) (hE : Evs w a' g3 k D.s E)
    (ka : Option Addr) (kb koff klen kcap : Nat) (kf : Nat → Bool) (hK : Bl w ka kb koff klen kf) (hkl : klen ≤ 140737488351232) :
    Calls Try.prog 27 #[.pointer (some ⟨g, 0, none⟩), .int .i64 k, .slice ka klen kcap] w fun e w' => ∃ g' g1' c1' g2' c2', e = .returned (.tuple #[.pointer (some ⟨g', 0, none⟩), .int .i64 0]) ∧
      DiskAt w' w.heap.size g' g1' c1' g2' c2' (.slice none 0 0) (freshD D.s (afterF D.F E (safeN E k) klen kf k)) ∧ Below w.heap.size w w' := by
  have h0 := hD.ok.lo
  have h1 := hD.ok.hi
  have hF := hD.ok.F
  have H := made_yes g g2 (D.s * 256) c2 w hD.cell1 (by omega)
  have hc2 := hD.cell2
  have HL := flushed_any a' g3 k c' D.s E w hE (by omega)
  have hsf := safeN_le E k
  have hD' := hD
  have HD : Hid _ := hD
  have HE : Hid _ := hE
  have HK : Hid _ := hK
  have HF : Hid _ := hF
  have HS : Hid _ := hsl
  have hz := (zero_of_info info65).1
  have hz0 := evA_size zeroEv
  generalize evA zeroEv = Z at *
  generalize safeN E k = sf at *
  clear hD hE hK hF hsl
  go_enter Try.func27, Try.ntmps27
  go_wp2_with fail
  refine H.mono ?_
  rintro e w' ⟨rfl, hw'⟩
  subst w'
  clear H
  have hq1 : ¬ ((n : Int) < k) := by omega
  go_wp2_with (refine wpList_sliceTo rfl 62 _ _ rfl _ (HS.out _) ?_)
  refine HL.mono ?_
  rintro e w1 ⟨rfl, hb1⟩
  clear HL hc2
  have hs1 := hb1.size
  have hD1 := hD'.below hb1 (Nat.le_refl _)
  have hc0 := hD1.cell0
  have hB1 : Bs w1 (some ⟨g1, 0, none⟩) g1 0 (D.s * 256) D.F := ⟨fun _ => rfl, fun i hi => by rw [Nat.zero_add, hD1.first.cellAt i (by omega), byts_at _ _ _ hi], HF.out⟩
  have HC := clone_any g1 0 (D.s * 256) c1 D.F w1 hB1 (by omega) (by omega)
  clear hB1 hD1 hD'
  generalize hm : D.s * 256 = m at *
  have HM : Hid _ := hm
  clear hm
  go_wp2_with fail
  refine HC.mono ?_
  rintro e w2 ⟨gF, cF, rfl, own2, hb2⟩
  clear HC hc0
  have hb2' : Below w.heap.size w w2 := hb1.trans (hb2.mono hs1)
  have own2' : w2.ownsRow w.heap.size 5 1 (.slice (some ⟨gF, 0, none⟩) m cF) m (byts D.F m) := ownsRow_base own2 hs1
  have hgF : w.heap.size ≤ gF := (ownsRow_slice own2').1
  clear own2
  go_wp2
  go_loopw [42] (fun i wr => ∃ j : Nat, j ≤ k ∧ i = .int .i64 j ∧ Hid (wr.ownsRow w.heap.size 5 1 (.slice (some ⟨gF, 0, none⟩) m cF) m (byts (afterF D.F E sf klen kf j) m)) ∧ Below w.heap.size w wr) (fun i _ => k - (intOf i).toNat)
  case atStart => exact ⟨0, Nat.zero_le _, rfl, own2', hb2'⟩
  case round =>
    obtain ⟨j, hj, rfl, own, hb⟩ := hrel
    have hs := hb.size
    clear own2' hb2' hb2 hb1 hs1
    by_cases hlt : j < k
    · obtain rfl := HE.out.at' (by omega)
      have hEr := HE.out.belowAll hb
      have hrg := hEr.range j hlt
      have hok := hEr.ok j hlt
      have hel := info65c (E j)
      have hA : (E j).cells.toArray = evA (E j) := rfl
      have hAs := evA_size (E j)
      have hAo := evA_one (E j)
      have HRG : Hid _ := hrg
      have hi65 : (Try.prog.info? 95).map (·.size) = some (evA (E j)).size := by rw [hAs]; exact info65s
      have hbA : Below w.heap.size w (wr.alloc (.cells (evA (E j)) 95)) := hb.alloc hs _
      have hRA : Row (wr.alloc (.cells (evA (E j)) 95)) wr.heap.size (evA (E j)) 95 := Row.new wr _ 95
      have ownA : (wr.alloc (.cells (evA (E j)) 95)).ownsRow w.heap.size 5 1 (.slice (some ⟨gF, 0, none⟩) m cF) m (byts (afterF D.F E sf klen kf j) m) := World.ownsRow.alloc (show wr.ownsRow w.heap.size 5 1 _ m _ from own) _
      have HR : Calls Try.prog 55 #[.agg (evA (E j)), .slice (some ⟨gF, 0, none⟩) m cF] (wr.alloc (.cells (evA (E j)) 95)) fun r w' => (∃ v, r = .returned v) ∧ w'.ownsRow w.heap.size 5 1 (.slice (some ⟨gF, 0, none⟩) m cF) m (byts (redoF (E j) (afterF D.F E sf klen kf j)) m) ∧ Lone gF (wr.alloc (.cells (evA (E j)) 95)) w' := by
        have h := redo_any (base := w.heap.size) (gF := gF) (cF := cF) (s := D.s) (F := afterF D.F E sf klen kf j) (E j) hok (w := wr.alloc (.cells (evA (E j)) 95)) (by rw [show D.s * 256 = m from HM.out]; exact ownA)
        rw [show D.s * 256 = m from HM.out] at h
        exact h
      have hKA := HK.out.belowAll hbA
      have HOA : Hid _ := ownA
      have hst : afterF D.F E sf klen kf (j + 1) = if j < sf ∨ keptB klen kf (j - sf) = true then redoF (E j) (afterF D.F E sf klen kf j) else afterF D.F E sf klen kf j := rfl
      have HST : Hid _ := hst
      have HHR : Hid _ := HR
      clear hst hrg hok hEr ownA own HR
      generalize evA (E j) = A at *
      generalize hLL : (E j).cells = L at *
      by_cases hsj : j < sf
      · have hd : decide (j < sf ∨ keptB klen kf (j - sf) = true) = true := by simp [hsj]
        go_wp2_with (first
          | (refine wpList_load_mid rfl 95 _ rfl g3 (j * 257) rfl L _ HRG.out Try.underlying95 rfl hel ?_; rw [hA])
          | refine wpList_store_new rfl 95 _ _ rfl wr Z A 95 rfl wr.heap.size rfl rfl rfl hi65 (hz0.trans hAs.symm) hAo ?_
          | refine wpList_load_row rfl 95 _ rfl wr.heap.size rfl 95 A (0, 0) _ hRA Try.underlying95 rfl hi65 ?_)
        refine Calls.mono HHR.out ?_
        rintro e w3 ⟨⟨v, rfl⟩, own3, hl3⟩
        go_wp2
        go_roundw
        case rel => exact ⟨j + 1, by omega, by go_num, by show World.ownsRow _ _ _ _ _ _ _; rw [HST.out, if_pos (.inl hsj)]; exact own3, hbA.trans (hl3.to_below hgF (by simp; omega))⟩
        case measure => simp [intOf]; omega
      · have hKP := kept_any ka kb koff klen kcap (j - sf) kf (wr.alloc (.cells A 95)) hKA (by omega) (by omega)
        have hsub : (j : Int) - sf = ((j - sf : Nat) : Int) := by omega
        cases hkp : keptB klen kf (j - sf) with
        | true =>
          rw [hkp] at hKP
          go_wp2_with (first
            | (refine wpList_load_mid rfl 95 _ rfl g3 (j * 257) rfl L _ HRG.out Try.underlying95 rfl hel ?_; rw [hA])
            | refine wpList_store_new rfl 95 _ _ rfl wr Z A 95 rfl wr.heap.size rfl rfl rfl hi65 (hz0.trans hAs.symm) hAo ?_
            | refine wpList_load_row rfl 95 _ rfl wr.heap.size rfl 95 A (0, 0) _ hRA Try.underlying95 rfl hi65 ?_)
          refine hKP.mono ?_
          rintro e w' ⟨rfl, hw'⟩
          subst w'
          go_wp2_with (refine wpList_load_row rfl 95 _ rfl wr.heap.size rfl 95 A (0, 0) _ hRA Try.underlying95 rfl hi65 ?_)
          refine Calls.mono HHR.out ?_
          rintro e w3 ⟨⟨v, rfl⟩, own3, hl3⟩
          go_wp2
          go_roundw
          case rel => exact ⟨j + 1, by omega, by go_num, by show World.ownsRow _ _ _ _ _ _ _; rw [HST.out, if_pos (.inr hkp)]; exact own3, hbA.trans (hl3.to_below hgF (by simp; omega))⟩
          case measure => simp [intOf]; omega
        | false =>
          rw [hkp] at hKP
          go_wp2_with (first
            | (refine wpList_load_mid rfl 95 _ rfl g3 (j * 257) rfl L _ HRG.out Try.underlying95 rfl hel ?_; rw [hA])
            | refine wpList_store_new rfl 95 _ _ rfl wr Z A 95 rfl wr.heap.size rfl rfl rfl hi65 (hz0.trans hAs.symm) hAo ?_
            | refine wpList_load_row rfl 95 _ rfl wr.heap.size rfl 95 A (0, 0) _ hRA Try.underlying95 rfl hi65 ?_)
          refine hKP.mono ?_
          rintro e w' ⟨rfl, hw'⟩
          subst w'
          go_wp2
          go_roundw
          case rel => exact ⟨j + 1, by omega, by go_num, by show World.ownsRow _ _ _ _ _ _ _; rw [HST.out, if_neg (by rw [hkp]; simp; omega)]; exact HOA.out, hbA⟩
          case measure => simp [intOf]; omega
    · obtain rfl : j = k := by omega
      have HH : Calls Try.prog 29 #[.slice (some ⟨gF, 0, none⟩) m cF] wr fun e w' => ∃ g g2 c2, e = .returned (.pointer (some ⟨g, 0, none⟩)) ∧ DiskAt w' w.heap.size g gF cF g2 c2 (.slice none 0 0) (freshD D.s (afterF D.F E sf klen kf j)) ∧ Below wr.heap.size wr w' := by
        have h := holding_any w.heap.size gF cF D.s (afterF D.F E sf klen kf j) wr (by rw [show D.s * 256 = m from HM.out]; exact own) h0 h1 (afterF_bd D.F E sf klen kf j HE.out.ok HF.out j (Nat.le_refl _)) hs
        rw [show D.s * 256 = m from HM.out] at h
        exact h
      have HHH : Hid _ := HH
      clear HH own
      go_wp2_with fail
      refine Calls.mono HHH.out ?_
      rintro e w3 ⟨g', g2', c2', rfl, hD3, hb3⟩
      have HD3 : Hid _ := hD3
      clear hD3 HHH
      go_wp2
      go_ret2
      exact ⟨g', gF, cF, g2', c2', rfl, HD3.out, hb.trans (hb3.mono hs)⟩

/-- The events of a disk, by their number. -/
def Dk.ev (D : Dk) (i : Nat) : Ev := D.E.getD i flushEv
theorem DiskAt.evsAt {w : World} {base g g1 c1 g2 c2 : Nat} {D : Dk} {g3 n c : Nat} (hD : DiskAt w base g g1 c1 g2 c2 (.slice (some ⟨g3, 0, none⟩) n c) D) (k : Nat) (hk : k ≤ n) : Evs w (some ⟨g3, 0, none⟩) g3 k D.s D.ev := by
  obtain ⟨_, hn, _, _, _⟩ := ownsRow_slice hD.evs
  have hx : ∀ i, i < k → D.E[i]? = some (D.ev i) := fun i hi => by
    have : i < D.E.length := by omega
    rw [List.getElem?_eq_getElem this]
    simp [Dk.ev, List.getD, List.getElem?_eq_getElem this]
  refine ⟨fun _ => rfl, fun i hi j v hj => ?_, fun i hi => hD.ok.E _ (List.mem_of_getElem? (hx i hi))⟩
  have hj' : j < 257 := by rw [← Ev.cells_len (D.ev i)]; exact (List.getElem?_eq_some_iff.1 hj).1
  have hev := hD.evs
  rw [hn] at hev
  rw [hev.cellAt (i * 257 + j) (by omega), evCells_at D.E i (D.ev i) (hx i hi) j hj', hj]

/-- What After tells. -/
def Dk.after (D : Dk) (k klen : Nat) (kf : Nat → Bool) : Dk := freshD D.s (afterF D.F D.ev (safeN D.ev k) klen kf k)

theorem after_ok {w : World} {base g g1 c1 g2 c2 : Nat} {ev : Value} {D : Dk} (hD : DiskAt w base g g1 c1 g2 c2 ev D) (k : Nat) (hk : k ≤ D.E.length) (hn : D.E.length ≤ 1000000)
    (ka : Option Addr) (kb koff klen kcap : Nat) (kf : Nat → Bool) (hK : Bl w ka kb koff klen kf) (hkl : klen ≤ 140737488351232) :
    Calls Try.prog 27 #[.pointer (some ⟨g, 0, none⟩), .int .i64 k, .slice ka klen kcap] w fun e w' => ∃ g' g1' c1' g2' c2', e = .returned (.tuple #[.pointer (some ⟨g', 0, none⟩), .int .i64 0]) ∧
      DiskAt w' w.heap.size g' g1' c1' g2' c2' (.slice none 0 0) (D.after k klen kf) ∧ Below w.heap.size w w' := by
  have hev := hD.evs
  obtain ⟨_, ⟨rfl, h0⟩ | ⟨g3, c, cur, rfl, _, _, hc1, hc2, _⟩⟩ := hev
  · obtain rfl : k = 0 := by omega
    refine after_core none 0 0 hD 0 (Nat.le_refl _) (by omega) none 0 0 D.ev (fun w => ?_) ⟨fun h => absurd h (by omega), fun i hi => absurd hi (by omega), fun i hi => absurd hi (by omega)⟩ ka kb koff klen kcap kf hK hkl
    kernel_rfl
  · refine after_core (some ⟨g3, 0, none⟩) D.E.length c hD k hk hn (some ⟨g3, 0, none⟩) g3 c D.ev (fun w => ?_) (hD.evsAt k hk) ka kb koff klen kcap kf hK hkl
    have hkc : k ≤ c := by omega
    simp [Instr.sliceAt, Instr.slice, Instr.sliceBounds, Instr.sliceBound, run_underlying Try.underlying62, asIntOf, hkc, Addr.add]

theorem after_bad {w : World} {base g g1 c1 g2 c2 : Nat} {ev : Value} {D : Dk} (hD : DiskAt w base g g1 c1 g2 c2 ev D) (k : Int) (hk : k < 0 ∨ (D.E.length : Int) < k) (K : Value) :
    Calls Try.prog 27 #[.pointer (some ⟨g, 0, none⟩), .int .i64 k, K] w fun e w' => e = .returned (.tuple #[.pointer none, .int .i64 2]) ∧ w' = w := by
  have H := made_yes g g2 (D.s * 256) c2 w hD.cell1 (by have := hD.ok.lo; omega)
  have hc := hD.cell2
  obtain ⟨a, c, rfl⟩ : ∃ a c, ev = .slice a D.E.length c := by
    obtain ⟨_, ⟨h1, h2⟩ | ⟨g', c', cur, h1, _⟩⟩ := hD.evs
    · exact ⟨none, 0, by rw [h1, h2]⟩
    · exact ⟨_, _, h1⟩
  generalize D.E.length = n at *
  clear hD
  by_cases hk0 : k < 0
  · clear hk
    go_enter Try.func27, Try.ntmps27
    go_wp2_with fail
    refine H.mono ?_
    rintro e w' ⟨rfl, rfl⟩
    go_wp2
    go_ret2
    exact ⟨rfl, rfl⟩
  · have hk1 : (n : Int) < k := by omega
    clear hk
    go_enter Try.func27, Try.ntmps27
    go_wp2_with fail
    refine H.mono ?_
    rintro e w' ⟨rfl, rfl⟩
    go_wp2
    go_ret2
    exact ⟨rfl, rfl⟩
end Go.Proofs.Ytlbapnecmhlgmaa
namespace Go.Proofs.Ytlbapnecmhlgmaa
open Go.RowKit

theorem two_pow_pos (k : Nat) : (0 : Int) < 2 ^ k := Int.pow_pos (by decide)
theorem and_i64 (x y : Int) : bits .and .i64 x y = IntKind.i64.wrap (((BitVec.ofInt 64 x).toNat &&& (BitVec.ofInt 64 y).toNat : Nat) : Int) := by
  show IntKind.i64.wrap ((BitVec.ofInt 64 x &&& BitVec.ofInt 64 y).toNat : Int) = _
  rw [BitVec.toNat_and]

/-- A mask of the i lowest bits, of a number of whatever sign. -/
theorem and_mask_i64 (i : Nat) (hi : i ≤ 62) (x : Int) : bits .and .i64 x (2 ^ i - 1) = x % 2 ^ i := by
  have hpos : 0 < 2 ^ i := Nat.two_pow_pos i
  have hle : 2 ^ i ≤ 2 ^ 62 := Nat.pow_le_pow_right (by decide) hi
  have hc : ((2 : Int) ^ i - 1) = ((2 ^ i - 1 : Nat) : Int) := by rw [Int.natCast_sub hpos]; simp
  have hm : (2 ^ i - 1) % 2 ^ 64 = 2 ^ i - 1 := Nat.mod_eq_of_lt (by omega)
  have hx : (BitVec.ofInt 64 x).toNat % 2 ^ i = (x % 2 ^ i).toNat := by
    rw [BitVec.toNat_ofInt]
    have h1 : ((x % ((2 ^ 64 : Nat) : Int)).toNat : Int) = x % 2 ^ 64 := by
      rw [Int.toNat_of_nonneg (Int.emod_nonneg _ (by decide))]; rfl
    have hd : ((2 : Int) ^ i) ∣ 2 ^ 64 := by
      refine ⟨2 ^ (64 - i), ?_⟩
      rw [← Int.pow_add]; congr 1; omega
    have h2 : (((x % ((2 ^ 64 : Nat) : Int)).toNat % 2 ^ i : Nat) : Int) = x % 2 ^ i := by
      rw [Int.natCast_emod, h1]
      have : ((2 ^ i : Nat) : Int) = 2 ^ i := by simp
      rw [this, Int.emod_emod_of_dvd _ hd]
    omega
  rw [hc, and_i64, BitVec.ofInt_natCast, BitVec.toNat_ofNat, hm, Nat.and_two_pow_sub_one_eq_mod, hx]
  have h0 : 0 ≤ x % 2 ^ i := Int.emod_nonneg _ (Int.ne_of_gt (two_pow_pos i))
  have h1 : x % 2 ^ i < 2 ^ i := Int.emod_lt_of_pos _ (two_pow_pos i)
  have h2 : (2 : Int) ^ i ≤ 2 ^ 62 := by exact_mod_cast hle
  rw [Int.toNat_of_nonneg h0, IntKind.wrap_i64]
  omega

theorem and3 (x : Int) : ∃ k : Nat, bits .and .i64 x 3 = (k : Int) ∧ k < 4 := by
  have h := and_mask_i64 2 (by decide) x
  have h4 : (2 : Int) ^ 2 = 4 := by decide
  rw [h4] at h
  have e : bits .and .i64 x 3 = x % 4 := h
  refine ⟨(x % 4).toNat, ?_, ?_⟩ <;> omega

/-- 256 bytes as a text. -/
def sStr (f : Nat → Int) : ByteArray := strOfNums ((List.range 256).map f)
theorem sStr_congr (f g : Nat → Int) (h : ∀ i, i < 256 → f i = g i) : sStr f = sStr g := by
  unfold sStr
  congr 1
  apply List.map_congr_left
  intro i hi
  exact h i (by simpa using hi)
theorem conv256 (w : World) (b off cap : Nat) (f : Nat → Int) (h : ∀ i, i < 256 → w.cell? ⟨b, off + i, none⟩ = some (.int .u8 (f i))) : (convert 40 9 (.slice (some ⟨b, off, none⟩) 256 cap)).run Try.prog w = .ok (.string (sStr f)) w := by
  refine run_convert_bytes_arg (P := Try.prog) w 40 5 Try.underlying40 Try.underlying5 b off 256 cap ((List.range 256).map f) (by simp) (fun i hi => ?_) 9 Try.underlying9
  rw [h i hi]; simp [List.getD, hi]
/-- The text of a sector. -/
def S (B : Nat → Int) (k : Nat) : ByteArray := sStr fun j => B (k * 256 + j)
theorem S_over (B : Nat → Int) (n k : Nat) (f : Nat → Int) : S (over B n f) k = if k = n then sStr f else S B k := by
  unfold S
  split
  · rename_i e
    subst e
    exact sStr_congr _ _ (fun i hi => by unfold over; rw [if_pos (by omega)]; congr 1; omega)
  · exact sStr_congr _ _ (fun i hi => by unfold over; rw [if_neg (by omega)])

/-- All of the first n events done. -/
def redoAll (F : Nat → Int) (E : Nat → Ev) : Nat → Nat → Int
  | 0 => F
  | n + 1 => redoF (E n) (redoAll F E n)
theorem redoAll_congr (F : Nat → Int) (E E' : Nat → Ev) (n : Nat) (h : ∀ i, i < n → E i = E' i) : redoAll F E n = redoAll F E' n := by
  induction n with
  | zero => rfl
  | succ n ih => rw [redoAll, redoAll, h n (by omega), ih (fun i hi => h i (by omega))]
theorem after_none (F : Nat → Int) (E : Nat → Ev) (sf : Nat) (kf : Nat → Bool) (n : Nat) : afterF F E sf 0 kf n = redoAll F E (min n sf) := by
  induction n with
  | zero => simp [afterF, redoAll]
  | succ n ih =>
    unfold afterF
    by_cases h : n < sf
    · rw [if_pos (.inl h), ih, show min n sf = n by omega, show min (n + 1) sf = n + 1 by omega]; rfl
    · rw [if_neg (by simp [keptB]; omega), ih, show min n sf = sf by omega, show min (n + 1) sf = sf by omega]
theorem after_every (F : Nat → Int) (E : Nat → Ev) (sf klen : Nat) (kf : Nat → Bool) (n : Nat) (hl : n ≤ klen) (hk : ∀ i, i < klen → kf i = true) : afterF F E sf klen kf n = redoAll F E n := by
  induction n with
  | zero => rfl
  | succ n ih =>
    unfold afterF
    by_cases h : n < sf
    · rw [if_pos (.inl h), ih (by omega)]; rfl
    · rw [if_pos (.inr (by simp [keptB, hk (n - sf) (by omega)]; omega)), ih (by omega)]; rfl

/-- The disk's bytes are what all its events did; Fl is what it was at the last flush. -/
structure Hist (D : Dk) (Fl : Nat → Int) : Prop where
  now : D.B = redoAll D.F D.ev D.E.length
  fl : Fl = redoAll D.F D.ev (safeN D.ev D.E.length)
theorem Dk.ev_old (D : Dk) (e : Ev) (i : Nat) (h : i < D.E.length) : Dk.ev { D with E := D.E ++ [e] } i = D.ev i := by
  simp [Dk.ev, List.getD, List.getElem?_append_left h]
theorem ev_last (F B : Nat → Int) (s : Nat) (E : List Ev) (e : Ev) : Dk.ev ⟨s, F, B, E ++ [e]⟩ E.length = e := by
  simp [Dk.ev, List.getD]
theorem safeN_congr (E E' : Nat → Ev) (n : Nat) (h : ∀ i, i < n → E i = E' i) : safeN E n = safeN E' n := by
  induction n with
  | zero => rfl
  | succ n ih => rw [safeN, safeN, h n (by omega), ih (fun i hi => h i (by omega))]
theorem ev_pre (F B : Nat → Int) (s : Nat) (E : List Ev) (e : Ev) (F' B' : Nat → Int) (s' : Nat) (i : Nat) (h : i < E.length) : Dk.ev ⟨s, F, B, E ++ [e]⟩ i = Dk.ev ⟨s', F', B', E⟩ i := by
  simp [Dk.ev, List.getD, List.getElem?_append_left h]
theorem Hist.flush {D : Dk} {Fl : Nat → Int} (h : Hist D Fl) : Hist D.flush D.B := by
  have h1 : redoAll D.F D.flush.ev D.E.length = redoAll D.F D.ev D.E.length := redoAll_congr _ _ _ _ (fun i hi => ev_pre _ _ _ _ _ _ _ _ i hi)
  have h2 : D.flush.ev D.E.length = flushEv := ev_last _ _ _ _ _
  have h3 : redoAll D.F D.flush.ev (D.E.length + 1) = D.B := by
    rw [redoAll, h2, h1, ← h.now]
    simp [redoF, Ev.isFl, flushEv]
  refine ⟨?_, ?_⟩
  · show D.B = redoAll D.F D.flush.ev (D.E ++ [flushEv]).length
    rw [List.length_append, List.length_cons, List.length_nil, h3]
  · show D.B = redoAll D.F D.flush.ev (safeN D.flush.ev (D.E ++ [flushEv]).length)
    rw [List.length_append, List.length_cons, List.length_nil]
    have : safeN D.flush.ev (D.E.length + 1) = D.E.length + 1 := by rw [safeN, h2]; simp [Ev.isFl, flushEv]
    rw [this, h3]
theorem Hist.write {D : Dk} {Fl : Nat → Int} (h : Hist D Fl) (n : Nat) (f : Nat → Int) : Hist (D.write n f) Fl := by
  have hp : ∀ i, i < D.E.length → (D.write n f).ev i = D.ev i := fun i hi => ev_pre _ _ _ _ _ _ _ _ i hi
  have h1 : redoAll D.F (D.write n f).ev D.E.length = redoAll D.F D.ev D.E.length := redoAll_congr _ _ _ _ hp
  have h2 : (D.write n f).ev D.E.length = ⟨n, f⟩ := ev_last _ _ _ _ _
  refine ⟨?_, ?_⟩
  · show over D.B n f = redoAll D.F (D.write n f).ev (D.E ++ [(⟨n, f⟩ : Ev)]).length
    rw [List.length_append, List.length_cons, List.length_nil, redoAll, h2, h1, ← h.now]
    simp [redoF, Ev.isFl]
    omega
  · show Fl = redoAll D.F (D.write n f).ev (safeN (D.write n f).ev (D.E ++ [(⟨n, f⟩ : Ev)]).length)
    have hs : safeN (D.write n f).ev (D.E.length + 1) = safeN D.ev D.E.length := by
      rw [safeN, h2, if_neg (by simp [Ev.isFl]), safeN_congr _ _ _ hp]
    rw [List.length_append, List.length_cons, List.length_nil, hs, h.fl]
    exact (redoAll_congr _ _ _ _ (fun i hi => hp i (by have := safeN_le D.ev D.E.length; omega))).symm
end Go.Proofs.Ytlbapnecmhlgmaa
namespace Go.Proofs.Ytlbapnecmhlgmaa
open Go.RowKit

/-- A journal: where its sectors lie, how many they are, what is put. -/
structure Jn where
  at' : Nat
  sec : Nat
  L : List Pt
/-- It lies in memory: its block, its map. -/
structure JAt (w : World) (base gj gm gd : Nat) (J : Jn) : Prop where
  row : Row w gj #[.pointer (some ⟨gd, 0, none⟩), .int .i64 J.at', .int .i64 J.sec, .map (some gm)] 56
  map : MapAt w gm J.L
  geJ : base ≤ gj
  geM : base ≤ gm
theorem JAt.keep {w w' : World} {base gj gm gd : Nat} {J : Jn} (h : JAt w base gj gm gd J) (h1 : w'.heap[gj]? = w.heap[gj]?) (h2 : w'.heap[gm]? = w.heap[gm]?) : JAt w' base gj gm gd J :=
  ⟨h1.trans h.row, h.map.keep h2, h.geJ, h.geM⟩
theorem JAt.below {w w' : World} {base gj gm gd : Nat} {J : Jn} (h : JAt w base gj gm gd J) (hb : Below w.heap.size w w') : JAt w' base gj gm gd J :=
  h.keep (hb.block _ h.row.lt) (hb.block _ h.map.lt)
/-- A journal that may be, over so many sectors. -/
structure Jn.ok (J : Jn) (s : Nat) : Prop where
  lo : 2 ≤ J.sec
  hi : J.sec ≤ 31
  fits : J.at' + J.sec ≤ s
  few : J.L.length ≤ J.sec - 1
  puts : ∀ p ∈ J.L, p.k < s ∧ (p.k < J.at' ∨ J.at' + J.sec ≤ p.k) ∧ ∀ i, 0 ≤ p.f i ∧ p.f i < 256

/-- The journal stays where the disk changes. -/
theorem JAt.chg {w w' : World} {b0 g g1 c1 g2 c2 : Nat} {ev : Value} {D : Dk} {base gj gm gd : Nat} {J : Jn} (h : JAt w base gj gm gd J) (hD : DiskAt w b0 g g1 c1 g2 c2 ev D) (hc : Chg g g2 ev w w') : JAt w' base gj gm gd J := by
  refine h.keep ((h.row.chg hD hc (by decide) (by decide) (fun e => absurd e (by decide))).trans h.row.symm) (hc.block gm h.map.lt (h.map.row_ne hD.row) ?_ ?_)
  · obtain ⟨_, _, _, _, cur, hr, _⟩ := ownsRow_slice hD.now
    exact h.map.row_ne hr
  · intro e
    obtain ⟨_, _, cur, hr⟩ := ownsRow_lt hD.evs gm e
    exact h.map.row_ne hr rfl
/-- The disk stays where the journal's map changes. -/
theorem DiskAt.one {w w' : World} {b0 g g1 c1 g2 c2 : Nat} {ev : Value} {D : Dk} {gm : Nat} {L : List Pt} (hD : DiskAt w b0 g g1 c1 g2 c2 ev D) (h : MapAt w gm L) (hc : One gm w w') : DiskAt w' b0 g g1 c1 g2 c2 ev D := by
  refine hD.keep fun k hk => hc.block k ?_
  rcases hk with rfl | rfl | rfl | hk
  · exact (h.row_ne hD.row).symm
  · obtain ⟨_, _, _, _, cur, hr, _⟩ := ownsRow_slice hD.first
    exact (h.row_ne hr).symm
  · obtain ⟨_, _, _, _, cur, hr, _⟩ := ownsRow_slice hD.now
    exact (h.row_ne hr).symm
  · obtain ⟨_, _, cur, hr⟩ := ownsRow_lt hD.evs k hk
    exact (h.row_ne hr).symm

section
variable {w : World} {b0 g g1 c1 g2 c2 : Nat} {ev : Value} {D : Dk} {base gj gm gd : Nat} {J : Jn}

theorem jmade_yes (hD : DiskAt w b0 gd g1 c1 g2 c2 ev D) (h : JAt w base gj gm gd J) : Calls Try.prog 36 #[.pointer (some ⟨gj, 0, none⟩)] w fun e w' => e = .returned (.bool true) ∧ w' = w := by
  have H := sectors_yes gd g2 D.s c2 w hD.cell1 hD.ok.lo hD.ok.hi
  have hlo := hD.ok.lo
  have c0 := (h.row.cell 0).trans (rfl : _ = some (Value.pointer (some ⟨gd, 0, none⟩)))
  have h0 : 0 < D.s := by omega
  clear hD h
  go_enter Try.func36, Try.ntmps36
  go_wp2_with fail
  refine H.mono ?_
  rintro e w' ⟨rfl, rfl⟩
  go_wp2
  go_ret
  exact ⟨rfl, rfl⟩
theorem jhas_any (hD : DiskAt w b0 gd g1 c1 g2 c2 ev D) (h : JAt w base gj gm gd J) (n : Int) : Calls Try.prog 37 #[.pointer (some ⟨gj, 0, none⟩), .int .i64 n] w fun e w' => e = .returned (.bool (decide (0 ≤ n ∧ n < D.s))) ∧ w' = w := by
  have H := sectors_yes gd g2 D.s c2 w hD.cell1 hD.ok.lo hD.ok.hi
  have c0 := (h.row.cell 0).trans (rfl : _ = some (Value.pointer (some ⟨gd, 0, none⟩)))
  clear hD h
  by_cases hn : 0 ≤ n
  · have hd : decide (0 ≤ n ∧ n < D.s) = decide (n < D.s) := by simp [hn]
    rw [hd]
    clear hd
    go_enter Try.func37, Try.ntmps37
    go_wp2_with fail
    refine H.mono ?_
    rintro e w' ⟨rfl, rfl⟩
    go_wp2
    go_ret
    exact ⟨rfl, rfl⟩
  · have hd : decide (0 ≤ n ∧ n < D.s) = false := by simp; omega
    rw [hd]
    clear hd H
    go_enter Try.func37, Try.ntmps37
    go_wp2
    go_ret
    exact ⟨rfl, rfl⟩
set_option maxRecDepth 20000 in
theorem owns_any (h : JAt w base gj gm gd J) (hs : J.at' + J.sec ≤ 100000) (n : Int) : Calls Try.prog 38 #[.pointer (some ⟨gj, 0, none⟩), .int .i64 n] w fun e w' => e = .returned (.bool (decide ((J.at' : Int) ≤ n ∧ n < (J.at' : Int) + J.sec))) ∧ w' = w.drew := by
  by_cases hn : (J.at' : Int) ≤ n
  · have hd : decide ((J.at' : Int) ≤ n ∧ n < (J.at' : Int) + J.sec) = decide (n < (J.at' : Int) + J.sec) := by simp [hn]
    rw [hd]
    clear hd
    go_enter Try.func38, Try.ntmps38
    go_wp2_with fail
    refine wp_region_mix [false, false, false, false, false, false, false, false, false, false, false, false, false, false, false, false, false, false, false, false] (fun wx => Row wx gj #[.pointer (some ⟨gd, 0, none⟩), .int .i64 J.at', .int .i64 J.sec, .map (some gm)] 56) (by kernel_rfl) (by kernel_rfl) h.row ?_
    refine m_move _ rfl (by rfl) ?_
    simp only [Act.put, List.setIfInBounds_toArray, List.set_cons_zero, List.set_cons_succ]
    refine m_move _ rfl (by rfl) ?_
    simp only [Act.put, List.setIfInBounds_toArray, List.set_cons_zero, List.set_cons_succ]
    refine m_value ?_ (by rfl) (fun w hw => ?_) ?_
    rotate_left
    · go_simp
      with_reducible rfl
    simp only [Act.put, List.setIfInBounds_toArray, List.set_cons_zero, List.set_cons_succ]
    refine m_value ?_ (by rfl) (fun w hw => ?_) ?_
    rotate_left
    · go_simp
      with_reducible rfl
    simp only [Act.put, List.setIfInBounds_toArray, List.set_cons_zero, List.set_cons_succ]
    refine m_value ?_ (by rfl) (fun w hw => ?_) ?_
    rotate_left
    · have hc := (hw.cell 1).trans (rfl : _ = some (Value.int .i64 (J.at' : Int)))
      go_simp
      with_reducible rfl
    simp only [Act.put, List.setIfInBounds_toArray, List.set_cons_zero, List.set_cons_succ]
    refine m_value ?_ (by rfl) (fun w hw => ?_) ?_
    rotate_left
    · have hdec : decide ((J.at' : Int) ≤ n) = true := decide_eq_true hn
      go_simp
      with_reducible rfl
    simp only [Act.put, List.setIfInBounds_toArray, List.set_cons_zero, List.set_cons_succ]
    refine m_move _ rfl (by rfl) ?_
    simp only [Act.put, List.setIfInBounds_toArray, List.set_cons_zero, List.set_cons_succ]
    refine m_move _ rfl (by rfl) ?_
    simp only [Act.put, List.setIfInBounds_toArray, List.set_cons_zero, List.set_cons_succ]
    refine m_move _ rfl (by rfl) ?_
    simp only [Act.put, List.setIfInBounds_toArray, List.set_cons_zero, List.set_cons_succ]
    refine m_value ?_ (by rfl) (fun w hw => ?_) ?_
    rotate_left
    · go_simp
      with_reducible rfl
    simp only [Act.put, List.setIfInBounds_toArray, List.set_cons_zero, List.set_cons_succ]
    refine m_value ?_ (by rfl) (fun w hw => ?_) ?_
    rotate_left
    · go_simp
      with_reducible rfl
    simp only [Act.put, List.setIfInBounds_toArray, List.set_cons_zero, List.set_cons_succ]
    refine m_value ?_ (by rfl) (fun w hw => ?_) ?_
    rotate_left
    · have hc := (hw.cell 1).trans (rfl : _ = some (Value.int .i64 (J.at' : Int)))
      go_simp
      with_reducible rfl
    simp only [Act.put, List.setIfInBounds_toArray, List.set_cons_zero, List.set_cons_succ]
    refine m_move _ rfl (by rfl) ?_
    simp only [Act.put, List.setIfInBounds_toArray, List.set_cons_zero, List.set_cons_succ]
    refine m_value ?_ (by rfl) (fun w hw => ?_) ?_
    rotate_left
    · go_simp
      with_reducible rfl
    simp only [Act.put, List.setIfInBounds_toArray, List.set_cons_zero, List.set_cons_succ]
    refine m_value ?_ (by rfl) (fun w hw => ?_) ?_
    rotate_left
    · go_simp
      with_reducible rfl
    simp only [Act.put, List.setIfInBounds_toArray, List.set_cons_zero, List.set_cons_succ]
    refine m_value ?_ (by rfl) (fun w hw => ?_) ?_
    rotate_left
    · have hc := (hw.cell 2).trans (rfl : _ = some (Value.int .i64 (J.sec : Int)))
      go_simp
      with_reducible rfl
    simp only [Act.put, List.setIfInBounds_toArray, List.set_cons_zero, List.set_cons_succ]
    refine m_value ?_ (by rfl) (fun w hw => ?_) ?_
    rotate_left
    · have hwr : IntKind.i64.wrap ((J.at' : Int) + J.sec) = (J.at' : Int) + J.sec := by rw [IntKind.wrap_i64]; omega
      go_simp
      with_reducible rfl
    simp only [Act.put, List.setIfInBounds_toArray, List.set_cons_zero, List.set_cons_succ]
    refine m_value ?_ (by rfl) (fun w hw => ?_) ?_
    rotate_left
    · go_simp
      with_reducible rfl
    simp only [Act.put, List.setIfInBounds_toArray, List.set_cons_zero, List.set_cons_succ]
    refine m_value ?_ (by rfl) (fun w hw => ?_) ?_
    rotate_left
    · go_simp
      with_reducible rfl
    simp only [Act.put, List.setIfInBounds_toArray, List.set_cons_zero, List.set_cons_succ]
    refine m_assign _ rfl (by rfl) ?_
    simp only [Act.put, List.setIfInBounds_toArray, List.set_cons_zero, List.set_cons_succ]
    refine m_done ?_
    try simp only [Exit.then]
    go_wp2
    go_ret
    exact ⟨rfl, rfl⟩
  · have hd : decide ((J.at' : Int) ≤ n ∧ n < (J.at' : Int) + J.sec) = false := by simp; omega
    rw [hd]
    clear hd
    go_enter Try.func38, Try.ntmps38
    go_wp2_with fail
    refine wp_region_mix [false, false, false, false, false, false, false, false, false, false, false, false, false, false, false, false, false, false, false, false] (fun wx => Row wx gj #[.pointer (some ⟨gd, 0, none⟩), .int .i64 J.at', .int .i64 J.sec, .map (some gm)] 56) (by kernel_rfl) (by kernel_rfl) h.row ?_
    refine m_move _ rfl (by rfl) ?_
    simp only [Act.put, List.setIfInBounds_toArray, List.set_cons_zero, List.set_cons_succ]
    refine m_move _ rfl (by rfl) ?_
    simp only [Act.put, List.setIfInBounds_toArray, List.set_cons_zero, List.set_cons_succ]
    refine m_value ?_ (by rfl) (fun w hw => ?_) ?_
    rotate_left
    · go_simp
      with_reducible rfl
    simp only [Act.put, List.setIfInBounds_toArray, List.set_cons_zero, List.set_cons_succ]
    refine m_value ?_ (by rfl) (fun w hw => ?_) ?_
    rotate_left
    · go_simp
      with_reducible rfl
    simp only [Act.put, List.setIfInBounds_toArray, List.set_cons_zero, List.set_cons_succ]
    refine m_value ?_ (by rfl) (fun w hw => ?_) ?_
    rotate_left
    · have hc := (hw.cell 1).trans (rfl : _ = some (Value.int .i64 (J.at' : Int)))
      go_simp
      with_reducible rfl
    simp only [Act.put, List.setIfInBounds_toArray, List.set_cons_zero, List.set_cons_succ]
    refine m_value ?_ (by rfl) (fun w hw => ?_) ?_
    rotate_left
    · have hdec : decide ((J.at' : Int) ≤ n) = false := decide_eq_false (by omega)
      go_simp
      with_reducible rfl
    simp only [Act.put, List.setIfInBounds_toArray, List.set_cons_zero, List.set_cons_succ]
    refine m_move _ rfl (by rfl) ?_
    simp only [Act.put, List.setIfInBounds_toArray, List.set_cons_zero, List.set_cons_succ]
    refine m_skip (by rfl) ?_
    simp only [Act.put, List.setIfInBounds_toArray, List.set_cons_zero, List.set_cons_succ]
    refine m_skip (by rfl) ?_
    simp only [Act.put, List.setIfInBounds_toArray, List.set_cons_zero, List.set_cons_succ]
    refine m_skip (by rfl) ?_
    simp only [Act.put, List.setIfInBounds_toArray, List.set_cons_zero, List.set_cons_succ]
    refine m_skip (by rfl) ?_
    simp only [Act.put, List.setIfInBounds_toArray, List.set_cons_zero, List.set_cons_succ]
    refine m_skip (by rfl) ?_
    simp only [Act.put, List.setIfInBounds_toArray, List.set_cons_zero, List.set_cons_succ]
    refine m_skip (by rfl) ?_
    simp only [Act.put, List.setIfInBounds_toArray, List.set_cons_zero, List.set_cons_succ]
    refine m_skip (by rfl) ?_
    simp only [Act.put, List.setIfInBounds_toArray, List.set_cons_zero, List.set_cons_succ]
    refine m_skip (by rfl) ?_
    simp only [Act.put, List.setIfInBounds_toArray, List.set_cons_zero, List.set_cons_succ]
    refine m_skip (by rfl) ?_
    simp only [Act.put, List.setIfInBounds_toArray, List.set_cons_zero, List.set_cons_succ]
    refine m_skip (by rfl) ?_
    simp only [Act.put, List.setIfInBounds_toArray, List.set_cons_zero, List.set_cons_succ]
    refine m_skip (by rfl) ?_
    simp only [Act.put, List.setIfInBounds_toArray, List.set_cons_zero, List.set_cons_succ]
    refine m_value ?_ (by rfl) (fun w hw => ?_) ?_
    rotate_left
    · go_simp
      with_reducible rfl
    simp only [Act.put, List.setIfInBounds_toArray, List.set_cons_zero, List.set_cons_succ]
    refine m_assign _ rfl (by rfl) ?_
    simp only [Act.put, List.setIfInBounds_toArray, List.set_cons_zero, List.set_cons_succ]
    refine m_done ?_
    try simp only [Exit.then]
    go_wp2
    go_ret
    exact ⟨rfl, rfl⟩
theorem data_any (h : JAt w base gj gm gd J) (hs : J.at' ≤ 100000) (i : Nat) (hi : i ≤ 1000) : Calls Try.prog 40 #[.pointer (some ⟨gj, 0, none⟩), .int .i64 i] w fun e w' => e = .returned (.int .i64 ((J.at' : Int) + 1 + i)) ∧ w' = w := by
  have c1 := (h.row.cell 1).trans (rfl : _ = some (Value.int .i64 (J.at' : Int)))
  clear h
  go_enter Try.func40, Try.ntmps40
  go_wp2
  go_ret
  exact ⟨rfl, rfl⟩
theorem most_yes (hD : DiskAt w b0 gd g1 c1 g2 c2 ev D) (h : JAt w base gj gm gd J) (hs : J.sec ≤ 31) : Calls Try.prog 22 #[.pointer (some ⟨gj, 0, none⟩)] w fun e w' => e = .returned (.int .i64 ((J.sec : Int) - 1)) ∧ w' = w := by
  have H := jmade_yes hD h
  have c2 := (h.row.cell 2).trans (rfl : _ = some (Value.int .i64 (J.sec : Int)))
  clear hD h
  go_enter Try.func22, Try.ntmps22
  go_wp2_with fail
  refine H.mono ?_
  rintro e w' ⟨rfl, rfl⟩
  go_wp2
  go_ret
  exact ⟨rfl, rfl⟩
theorem abort_yes (hD : DiskAt w b0 gd g1 c1 g2 c2 ev D) (h : JAt w base gj gm gd J) : Calls Try.prog 17 #[.pointer (some ⟨gj, 0, none⟩)] w fun e w' => e = .returned (.int .i64 0) ∧ JAt w' base gj gm gd { J with L := [] } ∧ One gm w w' := by
  have H := jmade_yes hD h
  have c3 := (h.row.cell 3).trans (rfl : _ = some (Value.map (some gm)))
  obtain ⟨w', hcl, hM, hO⟩ := h.map.clear 0
  have hJ : JAt w' base gj gm gd { J with L := [] } := ⟨(hO.block gj (h.map.row_ne h.row).symm).trans h.row, hM, h.geJ, h.geM⟩
  have HJ : Hid _ := hJ
  clear hD h hM hJ
  go_enter Try.func17, Try.ntmps17
  go_wp2_with fail
  refine H.mono ?_
  rintro e w' ⟨rfl, rfl⟩
  go_wp2
  go_ret
  exact ⟨rfl, HJ.out, hO⟩
end
end Go.Proofs.Ytlbapnecmhlgmaa
