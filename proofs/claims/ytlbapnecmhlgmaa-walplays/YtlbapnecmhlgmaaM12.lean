/- The document's journal in memory; the walk of own. The walk of the document's Stands: a header's numbers, or none. The document's Stands: a count that may not be. The document's Stands: its numbers. -/
import Derived.Test.YtlbapnecmhlgmaaM10
import Derived.Test.YtlbapnecmhlgmaaM11
namespace Go.Proofs.Ytlbapnecmhlgmaa
open Go.RowKit

/-- The document's journal: its disk gr, its sectors, what is put. -/
structure QAt (w : World) (base gq gr A sec : Nat) (lv : Value) (P : List Rv) : Prop where
  row : Row w gq #[.pointer (some ⟨gr, 0, none⟩), .int .i64 A, .int .i64 sec, lv] 50
  puts : w.ownsRow base 86 2 lv P.length (rvCells P)
  ge : base ≤ gq
section
variable {w w' : World} {base gq gr A sec : Nat} {lv : Value} {P : List Rv}
theorem QAt.keep (h : QAt w base gq gr A sec lv P) (hb : ∀ k, k = gq ∨ lv.ownBlock = some k → w'.heap[k]? = w.heap[k]?) : QAt w' base gq gr A sec lv P :=
  ⟨(hb gq (.inl rfl)).trans h.row, ownsRow_keep h.puts (fun k hk _ => hb k (.inr hk)), h.ge⟩
theorem QAt.below (h : QAt w base gq gr A sec lv P) (hb : Below w.heap.size w w') : QAt w' base gq gr A sec lv P :=
  h.keep fun k hk => hb.block k (by
    rcases hk with rfl | hk
    · exact h.row.lt
    · exact (ownsRow_lt h.puts k hk).1)
/-- It stays where rows of other kinds change. -/
theorem QAt.keepT (h : QAt w base gq gr A sec lv P) (hk : ∀ k C t, Row w k C t → t = 50 ∨ t = 86 → w'.heap[k]? = w.heap[k]?) : QAt w' base gq gr A sec lv P :=
  h.keep fun k hq => by
    rcases hq with rfl | hq
    · exact hk _ _ _ h.row (.inl rfl)
    · obtain ⟨_, _, cur, r⟩ := ownsRow_lt h.puts k hq
      exact hk _ _ _ r (.inr rfl)
theorem QAt.chgR {b0 g : Nat} {fv rv : Value} {R : Rk} (h : QAt w base gq gr A sec lv P) (hR : RefAt w b0 g fv rv R) (hc : ChgR g rv w w') : QAt w' base gq gr A sec lv P :=
  h.keepT fun _ _ _ hr ht => hr.chgR hR hc (by rcases ht with h | h <;> subst h <;> decide) (by rcases ht with h | h <;> subst h <;> decide)
theorem QAt.chg {b0 g g1 c1 g2 c2 : Nat} {ev : Value} {D : Dk} (h : QAt w base gq gr A sec lv P) (hD : DiskAt w b0 g g1 c1 g2 c2 ev D) (hc : Chg g g2 ev w w') : QAt w' base gq gr A sec lv P :=
  h.keepT fun _ _ _ hr ht => (hr.chg hD hc (by rcases ht with h | h <;> subst h <;> decide) (by rcases ht with h | h <;> subst h <;> decide) (fun e => by rcases ht with h | h <;> subst h <;> cases e)).trans hr.symm

set_option maxRecDepth 20000 in
theorem rown_any (h : QAt w base gq gr A sec lv P) (hA : A ≤ 100000) (hs : sec ≤ 100000) (n : Int) :
    Calls Try.prog 39 #[.pointer (some ⟨gq, 0, none⟩), .int .i64 n] w fun e w' => e = .returned (.bool (decide ((A : Int) ≤ n ∧ n < (A : Int) + sec))) ∧ w' = w.drew := by
  by_cases hn : (A : Int) ≤ n
  · have hd : decide ((A : Int) ≤ n ∧ n < (A : Int) + sec) = decide (n < (A : Int) + sec) := by simp [hn]
    rw [hd]
    clear hd
    have hwr : IntKind.i64.wrap ((A : Int) + sec) = (A : Int) + sec := by rw [IntKind.wrap_i64]; omega
    go_enter Try.func39, Try.ntmps39
    go_wp2_with fail
    refine wp_region_mix [false, false, false, false, false, false, false, false, false, false, false, false, false, false, false, false, false, false, false, false] (fun wx => QAt wx base gq gr A sec lv P) (by kernel_rfl) (by kernel_rfl) (h.below (Below.refl _ _).drew) ?_
    refine m_move _ rfl (by rfl) ?_
    simp only [Act.put, List.setIfInBounds_toArray, List.set_cons_zero, List.set_cons_succ]
    refine m_move _ rfl (by rfl) ?_
    simp only [Act.put, List.setIfInBounds_toArray, List.set_cons_zero, List.set_cons_succ]
    refine m_value ?_ (by rfl) (fun w hw => ?_) ?_
    rotate_left
    · go_simp
      with_reducible rfl
    simp only [Act.put, List.setIfInBounds_toArray, List.set_cons_zero, List.set_cons_succ]
    refine m_value ?_ (by rfl) (fun w hw => ?_) ?_
    rotate_left
    · go_simp
      with_reducible rfl
    simp only [Act.put, List.setIfInBounds_toArray, List.set_cons_zero, List.set_cons_succ]
    refine m_value ?_ (by rfl) (fun w hw => ?_) ?_
    rotate_left
    · have hc := (hw.row.cell 1).trans (rfl : _ = some (Value.int .i64 (A : Int)))
      go_simp
      with_reducible rfl
    simp only [Act.put, List.setIfInBounds_toArray, List.set_cons_zero, List.set_cons_succ]
    refine m_value ?_ (by rfl) (fun w hw => ?_) ?_
    rotate_left
    · go_simp
      with_reducible rfl
    simp only [Act.put, List.setIfInBounds_toArray, List.set_cons_zero, List.set_cons_succ]
    refine m_move _ rfl (by rfl) ?_
    simp only [Act.put, List.setIfInBounds_toArray, List.set_cons_zero, List.set_cons_succ]
    refine m_move _ rfl (by rfl) ?_
    simp only [Act.put, List.setIfInBounds_toArray, List.set_cons_zero, List.set_cons_succ]
    refine m_move _ rfl (by rfl) ?_
    simp only [Act.put, List.setIfInBounds_toArray, List.set_cons_zero, List.set_cons_succ]
    refine m_value ?_ (by rfl) (fun w hw => ?_) ?_
    rotate_left
    · go_simp
      with_reducible rfl
    simp only [Act.put, List.setIfInBounds_toArray, List.set_cons_zero, List.set_cons_succ]
    refine m_value ?_ (by rfl) (fun w hw => ?_) ?_
    rotate_left
    · go_simp
      with_reducible rfl
    simp only [Act.put, List.setIfInBounds_toArray, List.set_cons_zero, List.set_cons_succ]
    refine m_value ?_ (by rfl) (fun w hw => ?_) ?_
    rotate_left
    · have hc := (hw.row.cell 1).trans (rfl : _ = some (Value.int .i64 (A : Int)))
      go_simp
      with_reducible rfl
    simp only [Act.put, List.setIfInBounds_toArray, List.set_cons_zero, List.set_cons_succ]
    refine m_move _ rfl (by rfl) ?_
    simp only [Act.put, List.setIfInBounds_toArray, List.set_cons_zero, List.set_cons_succ]
    refine m_value ?_ (by rfl) (fun w hw => ?_) ?_
    rotate_left
    · go_simp
      with_reducible rfl
    simp only [Act.put, List.setIfInBounds_toArray, List.set_cons_zero, List.set_cons_succ]
    refine m_value ?_ (by rfl) (fun w hw => ?_) ?_
    rotate_left
    · go_simp
      with_reducible rfl
    simp only [Act.put, List.setIfInBounds_toArray, List.set_cons_zero, List.set_cons_succ]
    refine m_value ?_ (by rfl) (fun w hw => ?_) ?_
    rotate_left
    · have hc := (hw.row.cell 2).trans (rfl : _ = some (Value.int .i64 (sec : Int)))
      go_simp
      with_reducible rfl
    simp only [Act.put, List.setIfInBounds_toArray, List.set_cons_zero, List.set_cons_succ]
    refine m_value ?_ (by rfl) (fun w hw => ?_) ?_
    rotate_left
    · go_simp
      with_reducible rfl
    simp only [Act.put, List.setIfInBounds_toArray, List.set_cons_zero, List.set_cons_succ]
    refine m_value ?_ (by rfl) (fun w hw => ?_) ?_
    rotate_left
    · go_simp
      with_reducible rfl
    simp only [Act.put, List.setIfInBounds_toArray, List.set_cons_zero, List.set_cons_succ]
    refine m_value ?_ (by rfl) (fun w hw => ?_) ?_
    rotate_left
    · go_simp
      with_reducible rfl
    simp only [Act.put, List.setIfInBounds_toArray, List.set_cons_zero, List.set_cons_succ]
    refine m_assign _ rfl (by rfl) ?_
    simp only [Act.put, List.setIfInBounds_toArray, List.set_cons_zero, List.set_cons_succ]
    refine m_done ?_
    simp only [Exit.then]
    go_wp2
    go_ret
    exact ⟨rfl, rfl⟩
  · have hd : decide ((A : Int) ≤ n ∧ n < (A : Int) + sec) = false := by simp [hn]
    rw [hd]
    clear hd
    have hd0 : decide ((A : Int) ≤ n) = false := by simpa using hn
    go_enter Try.func39, Try.ntmps39
    go_wp2_with fail
    refine wp_region_mix [false, false, false, false, false, false, false, false, false, false, false, false, false, false, false, false, false, false, false, false] (fun wx => QAt wx base gq gr A sec lv P) (by kernel_rfl) (by kernel_rfl) (h.below (Below.refl _ _).drew) ?_
    refine m_move _ rfl (by rfl) ?_
    simp only [Act.put, List.setIfInBounds_toArray, List.set_cons_zero, List.set_cons_succ]
    refine m_move _ rfl (by rfl) ?_
    simp only [Act.put, List.setIfInBounds_toArray, List.set_cons_zero, List.set_cons_succ]
    refine m_value ?_ (by rfl) (fun w hw => ?_) ?_
    rotate_left
    · go_simp
      with_reducible rfl
    simp only [Act.put, List.setIfInBounds_toArray, List.set_cons_zero, List.set_cons_succ]
    refine m_value ?_ (by rfl) (fun w hw => ?_) ?_
    rotate_left
    · go_simp
      with_reducible rfl
    simp only [Act.put, List.setIfInBounds_toArray, List.set_cons_zero, List.set_cons_succ]
    refine m_value ?_ (by rfl) (fun w hw => ?_) ?_
    rotate_left
    · have hc := (hw.row.cell 1).trans (rfl : _ = some (Value.int .i64 (A : Int)))
      go_simp
      with_reducible rfl
    simp only [Act.put, List.setIfInBounds_toArray, List.set_cons_zero, List.set_cons_succ]
    refine m_value ?_ (by rfl) (fun w hw => ?_) ?_
    rotate_left
    · go_simp
      with_reducible rfl
    simp only [Act.put, List.setIfInBounds_toArray, List.set_cons_zero, List.set_cons_succ]
    refine m_move _ rfl (by rfl) ?_
    simp only [Act.put, List.setIfInBounds_toArray, List.set_cons_zero, List.set_cons_succ]
    refine m_skip (by rfl) ?_
    simp only [Act.put, List.setIfInBounds_toArray, List.set_cons_zero, List.set_cons_succ]
    refine m_skip (by rfl) ?_
    simp only [Act.put, List.setIfInBounds_toArray, List.set_cons_zero, List.set_cons_succ]
    refine m_skip (by rfl) ?_
    simp only [Act.put, List.setIfInBounds_toArray, List.set_cons_zero, List.set_cons_succ]
    refine m_skip (by rfl) ?_
    simp only [Act.put, List.setIfInBounds_toArray, List.set_cons_zero, List.set_cons_succ]
    refine m_skip (by rfl) ?_
    simp only [Act.put, List.setIfInBounds_toArray, List.set_cons_zero, List.set_cons_succ]
    refine m_skip (by rfl) ?_
    simp only [Act.put, List.setIfInBounds_toArray, List.set_cons_zero, List.set_cons_succ]
    refine m_skip (by rfl) ?_
    simp only [Act.put, List.setIfInBounds_toArray, List.set_cons_zero, List.set_cons_succ]
    refine m_skip (by rfl) ?_
    simp only [Act.put, List.setIfInBounds_toArray, List.set_cons_zero, List.set_cons_succ]
    refine m_skip (by rfl) ?_
    simp only [Act.put, List.setIfInBounds_toArray, List.set_cons_zero, List.set_cons_succ]
    refine m_skip (by rfl) ?_
    simp only [Act.put, List.setIfInBounds_toArray, List.set_cons_zero, List.set_cons_succ]
    refine m_skip (by rfl) ?_
    simp only [Act.put, List.setIfInBounds_toArray, List.set_cons_zero, List.set_cons_succ]
    refine m_value ?_ (by rfl) (fun w hw => ?_) ?_
    rotate_left
    · go_simp
      with_reducible rfl
    simp only [Act.put, List.setIfInBounds_toArray, List.set_cons_zero, List.set_cons_succ]
    refine m_assign _ rfl (by rfl) ?_
    simp only [Act.put, List.setIfInBounds_toArray, List.set_cons_zero, List.set_cons_succ]
    refine m_done ?_
    simp only [Exit.then]
    go_wp2
    go_ret
    exact ⟨rfl, rfl⟩
end
end Go.Proofs.Ytlbapnecmhlgmaa
namespace Go.Proofs.Ytlbapnecmhlgmaa
open Go.RowKit

theorem sStr_head (f : Nat → Int) : (sStr f).extract 0 8 = s8 f := by
  have h := sub_nums ((List.range 256).map f) 0 8 (by simp)
  unfold sStr s8
  rw [show (0 : Nat) + 8 = 8 from rfl] at h
  rw [h]
  rfl
section
variable {w : World} {base b0 gq gr A sec : Nat} {lv fv rv : Value} {P : List Rv} {R : Rk}

/-- No mark: it does not stand. -/
theorem rstands_un (f : Nat → Int) (w : World) (hne : unmarked f) : Calls Try.prog 34 #[.pointer (some ⟨gq, 0, none⟩), .string (sStr f)] w fun e w' => e = .returned (.slice none 0 0) ∧ w' = w := by
  have hsz : (sStr f).size = 256 := by unfold sStr; rw [strOfNums_size]; simp
  have hh := sStr_head f
  unfold unmarked at hne
  generalize s8 f = S8 at *
  generalize sStr f = SS at *
  go_enter Try.func34, Try.ntmps34
  go_wp2
  go_ret
  exact ⟨rfl, rfl⟩
end
end Go.Proofs.Ytlbapnecmhlgmaa
namespace Go.Proofs.Ytlbapnecmhlgmaa
open Go.RowKit

section
variable {w : World} {base b0 gq gr A sec : Nat} {lv fv rv : Value} {P : List Rv} {R : Rk}

/-- A count that may not be. -/
theorem rstands_cnt (h : QAt w base gq gr A sec lv P) (hs2 : 2 ≤ sec) (hs31 : sec ≤ 31) (f : Nat → Int) (hf : ∀ i, 0 ≤ f i ∧ f i < 256) (hm : ((s8 f).toList == [115, 116, 105, 108, 108, 119, 97, 108]) = true) (hc : word f 1 < 1 ∨ (sec : Int) - 1 < word f 1) :
    Calls Try.prog 34 #[.pointer (some ⟨gq, 0, none⟩), .string (sStr f)] w fun e w' => e = .returned (.slice none 0 0) ∧ Below w.heap.size w w' := by
  have hsz : (sStr f).size = 256 := by unfold sStr; rw [strOfNums_size]; simp
  have hh := sStr_head f
  have HN := rnum_any f (1 * 8) w (by omega) hf
  rw [show ((1 * 8 : Nat) : Int) = 8 from rfl, show num (fun j => f (1 * 8 + j)) 8 = word f 1 from rfl] at HN
  have hwb := word_bd f hf 1
  generalize word f 1 = W at *
  generalize s8 f = S8 at *
  generalize sStr f = SS at *
  have hcw : IntKind.u64.wrap ((sec : Int) - 1) = (sec : Int) - 1 := by rw [IntKind.wrap_u64]; omega
  have HQ : Hid _ := h
  clear h hf
  by_cases hc1 : W < 1
  · clear hc
    go_enter Try.func34, Try.ntmps34
    go_wp2_with fail
    refine HN.mono ?_
    rintro e w1 ⟨rfl, hb⟩
    go_wp2
    go_ret
    exact ⟨rfl, hb⟩
  · have hc2 : (sec : Int) - 1 < W := hc.resolve_left hc1
    have hc1' : ¬ W < 1 := hc1
    clear hc
    go_enter Try.func34, Try.ntmps34
    go_wp2_with fail
    refine HN.mono ?_
    rintro e w1 ⟨rfl, hb⟩
    have c2 := ((HQ.out.below hb).row.cell 2).trans (rfl : _ = some (Value.int .i64 (sec : Int)))
    go_wp2
    go_ret
    exact ⟨rfl, hb⟩

end
end Go.Proofs.Ytlbapnecmhlgmaa
namespace Go.Proofs.Ytlbapnecmhlgmaa
open Go.RowKit

section
variable {w : World} {base b0 gq gr A sec : Nat} {lv fv rv : Value} {P : List Rv} {R : Rk}

set_option maxRecDepth 20000 in
set_option maxHeartbeats 4000000 in
theorem rstands_go (h : QAt w base gq gr A sec lv P) (hR : RefAt w b0 gr fv rv R) (hF0 : 1 ≤ R.F.length) (hF1 : R.F.length ≤ 2048) (hfit : A + sec ≤ R.F.length) (hs31 : sec ≤ 31) (f : Nat → Int) (hf : ∀ i, 0 ≤ f i ∧ f i < 256) (hm : ((s8 f).toList == [115, 116, 105, 108, 108, 119, 97, 108]) = true) (cnt : Nat) (hcnt : word f 1 = cnt) (hlo : 1 ≤ cnt) (hhi : cnt + 1 ≤ sec) :
    Calls Try.prog 34 #[.pointer (some ⟨gq, 0, none⟩), .string (sStr f)] w fun e w' => Below w.heap.size w w' ∧
      (((∀ i, i < cnt → okW f R.F.length A sec i) ∧ ∃ v, e = .returned v ∧ NumsAt w' w.heap.size v (wordsL f cnt)) ∨ (¬ (∀ i, i < cnt → okW f R.F.length A sec i) ∧ e = .returned (.slice none 0 0))) := by
  have hsz : (sStr f).size = 256 := by unfold sStr; rw [strOfNums_size]; simp
  have hh := sStr_head f
  have HN := rnum_any f (1 * 8) w (by omega) hf
  rw [show ((1 * 8 : Nat) : Int) = 8 from rfl, show num (fun j => f (1 * 8 + j)) 8 = word f 1 from rfl, hcnt] at HN
  have HWn : Hid (∀ wx, ∀ i : Nat, i ≤ 29 → Calls Try.prog 57 #[.string (sStr f), .int .i64 (16 + 8 * (i : Int))] wx fun e w' => e = .returned (.int .u64 (word f (2 + i))) ∧ Below wx.heap.size wx w') := fun wx i hi => by
    have h := rnum_any f ((2 + i) * 8) wx (by omega) hf
    rw [show (((2 + i) * 8 : Nat) : Int) = 16 + 8 * (i : Int) by omega] at h
    exact h
  have HBD : Hid (∀ i, 0 ≤ word f i ∧ word f i < 18446744073709551616) := word_bd f hf
  generalize s8 f = S8 at *
  generalize sStr f = SS at *
  have HQ : Hid _ := h
  have HR : Hid _ := hR
  obtain ⟨fa, fc, hfv, _⟩ := own_slice hR.first
  generalize hF : R.F.length = s at *
  have HF : Hid _ := hF
  have hcw : IntKind.u64.wrap ((sec : Int) - 1) = (sec : Int) - 1 := by rw [IntKind.wrap_u64]; omega
  have hci : IntKind.i64.wrap (cnt : Int) = cnt := by rw [IntKind.wrap_i64]; omega
  have hsu : IntKind.u64.wrap (s : Int) = s := by rw [IntKind.wrap_u64]; omega
  have hl1 : ¬ (cnt : Int) < 1 := by omega
  have hl2 : ¬ ((sec : Int) - 1 < cnt) := by omega
  have HFV : Hid _ := hfv
  clear h hR hf hcnt hF hfv
  go_enter Try.func34, Try.ntmps34
  go_wp2_with fail
  refine HN.mono ?_
  rintro e w1 ⟨rfl, hb1⟩
  have c2 := ((HQ.out.below hb1).row.cell 2).trans (rfl : _ = some (Value.int .i64 (sec : Int)))
  have hs1 := hb1.size
  clear HN
  go_wp2
  go_loopw [6, 7] (fun nv iv wx => ∃ i : Nat, i ≤ cnt ∧ iv = .int .i64 i ∧ Hid (∀ q, q < i → okW f s A sec q) ∧ Hid (wx.ownsRow w.heap.size 3 1 nv (wordsL f i).length ((wordsL f i).map fun k => Value.int .i64 (k : Nat))) ∧ Hid (Below w.heap.size w wx)) (fun _ iv _ => cnt - (intOf iv).toNat)
  case atStart => exact ⟨0, Nat.zero_le _, rfl, (fun q h => absurd h (Nat.not_lt_zero q)), World.ownsRow_nil _ _ _ _, hb1⟩
  case round =>
    obtain ⟨i, hi, rfl, hOk, hOw, hB⟩ := hrel
    have hsz := hB.out.size
    clear c2 hb1
    obtain ⟨ua, uc, hu⟩ : ∃ ua uc, u6 = .slice ua i uc := by
      rcases own_ints hOw.out with ⟨h1, h2⟩ | ⟨b', c', h1, h2, h3⟩
      · have : i = 0 := by rw [← wordsL_len f i, h2]; rfl
        subst this
        exact ⟨none, 0, h1⟩
      · exact ⟨_, c', by rw [h1, wordsL_len]⟩
    by_cases hlt : i < cnt
    · have hlt' : (i : Int) < cnt := by omega
      have hWi := HWn.out wr i (by omega)
      have hwb := HBD.out (2 + i)
      obtain ⟨wi, hwi⟩ : ∃ wi, word f (2 + i) = wi := ⟨_, rfl⟩
      rw [hwi] at hWi hwb
      have HWI : Hid _ := hwi
      have HWi : Hid _ := hWi
      have e8 : IntKind.i64.wrap (8 * (i : Int)) = 8 * (i : Int) := by rw [IntKind.wrap_i64]; omega
      have e16 : IntKind.i64.wrap (16 + 8 * (i : Int)) = 16 + 8 * (i : Int) := by rw [IntKind.wrap_i64]; omega
      clear hWi hwi
      by_cases hge : (s : Int) ≤ wi
      · subst hu
        go_wp2_with fail
        refine Calls.mono HWi.out ?_
        rintro e w2 ⟨rfl, hb2⟩
        clear HWi e8 e16
        have hB2 : Below w.heap.size w w2 := hB.out.trans (hb2.mono hsz)
        have c0 := ((HQ.out.below hB2).row.cell 0).trans (rfl : _ = some (Value.pointer (some ⟨gr, 0, none⟩)))
        have cF := ((HR.out.below hB2).row.cell 0).trans (rfl : _ = some fv)
        rw [show fv = _ from HFV.out] at cF
        go_wp2
        go_ret
        exact ⟨hB2, .inr ⟨fun h => by have := (h i hlt).1; rw [show word f (2 + i) = wi from HWI.out] at this; omega, rfl⟩⟩
      · have hwl : wi < s := by omega
        have hwc : IntKind.i64.wrap wi = wi := by rw [IntKind.wrap_i64]; omega
        by_cases hown : (A : Int) ≤ wi ∧ wi < (A : Int) + sec
        · subst hu
          go_wp2_with fail
          refine Calls.mono HWi.out ?_
          rintro e w2 ⟨rfl, hb2⟩
          clear HWi e8 e16
          have hB2 : Below w.heap.size w w2 := hB.out.trans (hb2.mono hsz)
          have c0 := ((HQ.out.below hB2).row.cell 0).trans (rfl : _ = some (Value.pointer (some ⟨gr, 0, none⟩)))
          have cF := ((HR.out.below hB2).row.cell 0).trans (rfl : _ = some fv)
          rw [show fv = _ from HFV.out] at cF
          have hOwn := rown_any (HQ.out.below hB2) (by omega) (by omega) wi
          rw [show decide ((A : Int) ≤ wi ∧ wi < (A : Int) + sec) = true from decide_eq_true hown] at hOwn
          have HOwn : Hid _ := hOwn
          clear hOwn
          go_wp2_with fail
          refine Calls.mono HOwn.out ?_
          rintro e w' ⟨rfl, hw'⟩
          subst w'
          clear HOwn c0 cF
          go_wp2
          go_ret
          exact ⟨hB2.drew, .inr ⟨fun h => by have := (h i hlt).2.1; rw [show word f (2 + i) = wi from HWI.out] at this; omega, rfl⟩⟩
        · obtain ⟨wn, hwn⟩ : ∃ wn : Nat, wi = (wn : Int) := ⟨wi.toNat, by omega⟩
          by_cases hbad : 0 < i ∧ wi ≤ word f (2 + (i - 1))
          · clear hwn
            obtain ⟨k, rfl⟩ : ∃ k, i = k + 1 := ⟨i - 1, by omega⟩
            obtain ⟨b', c', hu2, hbb, hI2⟩ : ∃ b' c', u6 = .slice (some ⟨b', 0, none⟩) (k + 1) c' ∧ w.heap.size ≤ b' ∧ Ints wr b' (k + 1) (fun q => ((wordsL f (k + 1)).getD q 0 : Nat)) := by
              rcases own_ints hOw.out with ⟨_, h2⟩ | ⟨b', c', h1, h2, h3⟩
              · have := wordsL_len f (k + 1); rw [h2] at this; simp at this
              · rw [wordsL_len] at h1 h3; exact ⟨b', c', h1, h2, h3⟩
            have hpb := HBD.out (2 + k)
            have hkI : (k : Int) < (k : Int) + 1 := by omega
            have hwk : IntKind.i64.wrap (k : Int) = k := by rw [IntKind.wrap_i64]; omega
            have hk0 : (0 : Int) < (k : Int) + 1 := by omega
            have hk0' : (0 : Int) ≤ (k : Int) := by omega
            subst hu2
            clear hu
            have HI2 : Hid _ := hI2
            clear hI2
            go_wp2_with fail
            refine Calls.mono HWi.out ?_
            rintro e w2 ⟨rfl, hb2⟩
            clear HWi e8 e16
            have hB2 : Below w.heap.size w w2 := hB.out.trans (hb2.mono hsz)
            have c0 := ((HQ.out.below hB2).row.cell 0).trans (rfl : _ = some (Value.pointer (some ⟨gr, 0, none⟩)))
            have cF := ((HR.out.below hB2).row.cell 0).trans (rfl : _ = some fv)
            rw [show fv = _ from HFV.out] at cF
            have hOwn := rown_any (HQ.out.below hB2) (by omega) (by omega) wi
            rw [show decide ((A : Int) ≤ wi ∧ wi < (A : Int) + sec) = false from decide_eq_false hown] at hOwn
            have HOwn : Hid _ := hOwn
            clear hOwn
            go_wp2_with fail
            refine Calls.mono HOwn.out ?_
            rintro e w' ⟨rfl, hw'⟩
            subst w'
            clear HOwn c0 cF
            have hI3 : Ints w2.drew b' (k + 1) (fun q => ((wordsL f (k + 1)).getD q 0 : Nat)) := HI2.out.keep (hb2.block b' (World.block_lt_of_cell? _ _ (HI2.out.cell 0 (by omega))))
            have ck := hI3.cell k (by omega)
            rw [wordsL_at f (k + 1) k (by omega)] at ck
            have hbad2 : wi ≤ ((word f (2 + k)).toNat : Int) := by have := hbad.2; rw [Nat.add_sub_cancel] at this; omega
            generalize (word f (2 + k)).toNat = pk at *
            clear hI3 HI2
            go_wp2
            go_ret
            exact ⟨hB2.drew, .inr ⟨fun h => by have := (h (k + 1) hlt).2.2 (by omega); rw [show word f (2 + (k + 1)) = wi from HWI.out] at this; have := hbad.2; omega, rfl⟩⟩
          · have hokI : okW f s A sec i := by
              refine ⟨?_, ?_, fun h0 => ?_⟩
              · rw [show word f (2 + i) = wi from HWI.out]; exact hwl
              · rw [show word f (2 + i) = wi from HWI.out]; omega
              · rw [show word f (2 + i) = wi from HWI.out]
                rcases Int.lt_or_le (word f (2 + (i - 1))) wi with h | h
                · exact h
                · exact absurd ⟨h0, h⟩ hbad
            have hOk2 : Hid (∀ q, q < i + 1 → okW f s A sec q) := fun q hq => by
              by_cases e : q = i
              · subst e; exact hokI
              · exact hOk.out q (by omega)
            have hwsu : Hid (wordsL f (i + 1) = wordsL f i ++ [wn]) := by show _ = _; rw [wordsL_succ, show word f (2 + i) = wi from HWI.out, hwn]; rfl
            have hwl1000 : (wordsL f i).length ≤ 1000 := by rw [wordsL_len]; omega
            clear hokI
            subst hwn
            cases i with
            | zero =>
              subst hu
              go_wp2_with fail
              refine Calls.mono HWi.out ?_
              rintro e w2 ⟨rfl, hb2⟩
              clear HWi e8 e16
              have hB2 : Below w.heap.size w w2 := hB.out.trans (hb2.mono hsz)
              have c0 := ((HQ.out.below hB2).row.cell 0).trans (rfl : _ = some (Value.pointer (some ⟨gr, 0, none⟩)))
              have cF := ((HR.out.below hB2).row.cell 0).trans (rfl : _ = some fv)
              rw [show fv = _ from HFV.out] at cF
              have hOwn := rown_any (HQ.out.below hB2) (by omega) (by omega) (wn : Int)
              rw [show decide ((A : Int) ≤ (wn : Int) ∧ (wn : Int) < (A : Int) + sec) = false from decide_eq_false hown] at hOwn
              have HOwn : Hid _ := hOwn
              clear hOwn
              go_wp2_with fail
              refine Calls.mono HOwn.out ?_
              rintro e w' ⟨rfl, hw'⟩
              subst w'
              clear HOwn c0 cF
              have hOD : Hid (w2.drew.ownsRow w.heap.size 3 1 (.slice ua 0 uc) (wordsL f (0)).length ((wordsL f (0)).map fun k => Value.int .i64 (k : Nat))) := ownsRow_below (ownsRow_below hOw.out hb2) (Below.refl _ _).drew
              have hBd : Hid (Below w.heap.size w w2.drew) := hB2.drew
              have hszd : w.heap.size ≤ w2.drew.heap.size := hB2.size
              generalize w2.drew = wD at *
              go_wp2_with (at_builtin; refine wpList_num rfl _ _ rfl w.heap.size (.slice ua 0 uc) (wordsL f (0)) wn wD rfl rfl hOD wD.heap.size rfl rfl hwl1000 hszd ?_)
              intro v' w3 own3 grow3
              have hO1 : (wD.alloc (.cells #[.int .i64 (wn : Int)] 3)).ownsRow w.heap.size 3 1 (.slice ua 0 uc) (wordsL f (0)).length ((wordsL f (0)).map fun k => Value.int .i64 (k : Nat)) := World.ownsRow.alloc (show wD.ownsRow _ 3 1 _ _ _ from hOD) _
              have hB3 : Hid (Below w.heap.size w w3) := own_grown hO1 (hBd.out.alloc hszd _) (by simp; omega) grow3
              have hOw3 : Hid (w3.ownsRow w.heap.size 3 1 v' (wordsL f (0 + 1)).length ((wordsL f (0 + 1)).map fun k => Value.int .i64 (k : Nat))) := by
                show World.ownsRow _ _ _ _ _ _ _
                rw [show wordsL f (0 + 1) = _ from hwsu.out]
                simpa using own3.out
              clear own3 grow3 hO1 hOD hwsu
              go_wp2
              go_roundw
              case rel => exact ⟨0 + 1, by omega, by go_num, hOk2, hOw3, hB3⟩
              case measure => simp [intOf]; omega
            | succ k =>
              obtain ⟨b', c', hu2, hbb, hI2⟩ : ∃ b' c', u6 = .slice (some ⟨b', 0, none⟩) (k + 1) c' ∧ w.heap.size ≤ b' ∧ Ints wr b' (k + 1) (fun q => ((wordsL f (k + 1)).getD q 0 : Nat)) := by
                rcases own_ints hOw.out with ⟨_, h2⟩ | ⟨b', c', h1, h2, h3⟩
                · have := wordsL_len f (k + 1); rw [h2] at this; simp at this
                · rw [wordsL_len] at h1 h3; exact ⟨b', c', h1, h2, h3⟩
              have hpb := HBD.out (2 + k)
              have hkI : (k : Int) < (k : Int) + 1 := by omega
              have hwk : IntKind.i64.wrap (k : Int) = k := by rw [IntKind.wrap_i64]; omega
              have hk0 : (0 : Int) < (k : Int) + 1 := by omega
              have hk0' : (0 : Int) ≤ (k : Int) := by omega
              subst hu2
              clear hu
              have HI2 : Hid _ := hI2
              clear hI2
              go_wp2_with fail
              refine Calls.mono HWi.out ?_
              rintro e w2 ⟨rfl, hb2⟩
              clear HWi e8 e16
              have hB2 : Below w.heap.size w w2 := hB.out.trans (hb2.mono hsz)
              have c0 := ((HQ.out.below hB2).row.cell 0).trans (rfl : _ = some (Value.pointer (some ⟨gr, 0, none⟩)))
              have cF := ((HR.out.below hB2).row.cell 0).trans (rfl : _ = some fv)
              rw [show fv = _ from HFV.out] at cF
              have hOwn := rown_any (HQ.out.below hB2) (by omega) (by omega) (wn : Int)
              rw [show decide ((A : Int) ≤ (wn : Int) ∧ (wn : Int) < (A : Int) + sec) = false from decide_eq_false hown] at hOwn
              have HOwn : Hid _ := hOwn
              clear hOwn
              go_wp2_with fail
              refine Calls.mono HOwn.out ?_
              rintro e w' ⟨rfl, hw'⟩
              subst w'
              clear HOwn c0 cF
              have hI3 : Ints w2.drew b' (k + 1) (fun q => ((wordsL f (k + 1)).getD q 0 : Nat)) := HI2.out.keep (hb2.block b' (World.block_lt_of_cell? _ _ (HI2.out.cell 0 (by omega))))
              have ck := hI3.cell k (by omega)
              rw [wordsL_at f (k + 1) k (by omega)] at ck
              have hgood2 : ¬ (wn : Int) ≤ ((word f (2 + k)).toNat : Int) := fun h => hbad ⟨by omega, by rw [Nat.add_sub_cancel]; omega⟩
              generalize (word f (2 + k)).toNat = pk at *
              clear hI3 HI2 hbad
              have hOD : Hid (w2.drew.ownsRow w.heap.size 3 1 (.slice (some ⟨b', 0, none⟩) (k + 1) c') (wordsL f (k + 1)).length ((wordsL f (k + 1)).map fun k => Value.int .i64 (k : Nat))) := ownsRow_below (ownsRow_below hOw.out hb2) (Below.refl _ _).drew
              have hBd : Hid (Below w.heap.size w w2.drew) := hB2.drew
              have hszd : w.heap.size ≤ w2.drew.heap.size := hB2.size
              generalize w2.drew = wD at *
              go_wp2_with (at_builtin; refine wpList_num rfl _ _ rfl w.heap.size (.slice (some ⟨b', 0, none⟩) (k + 1) c') (wordsL f (k + 1)) wn wD rfl rfl hOD wD.heap.size rfl rfl hwl1000 hszd ?_)
              intro v' w3 own3 grow3
              have hO1 : (wD.alloc (.cells #[.int .i64 (wn : Int)] 3)).ownsRow w.heap.size 3 1 (.slice (some ⟨b', 0, none⟩) (k + 1) c') (wordsL f (k + 1)).length ((wordsL f (k + 1)).map fun k => Value.int .i64 (k : Nat)) := World.ownsRow.alloc (show wD.ownsRow _ 3 1 _ _ _ from hOD) _
              have hB3 : Hid (Below w.heap.size w w3) := own_grown hO1 (hBd.out.alloc hszd _) (by simp; omega) grow3
              have hOw3 : Hid (w3.ownsRow w.heap.size 3 1 v' (wordsL f (k + 1 + 1)).length ((wordsL f (k + 1 + 1)).map fun k => Value.int .i64 (k : Nat))) := by
                show World.ownsRow _ _ _ _ _ _ _
                rw [show wordsL f (k + 1 + 1) = _ from hwsu.out]
                simpa using own3.out
              clear own3 grow3 hO1 hOD hwsu
              go_wp2
              go_roundw
              case rel => exact ⟨k + 1 + 1, by omega, by go_num, hOk2, hOw3, hB3⟩
              case measure => simp [intOf]; omega
    · have hlt' : ¬ (i : Int) < cnt := by omega
      obtain rfl : i = cnt := by omega
      have hNums : Hid (NumsAt wr w.heap.size u6 (wordsL f i)) := by
        rcases own_ints hOw.out with ⟨h1, h2⟩ | ⟨b', c', h1, h2, h3⟩
        · exact ⟨none, 0, by rw [h1, h2]; rfl, fun h => absurd h (by rw [h2]; simp)⟩
        · exact ⟨_, c', h1, fun _ => ⟨b', rfl, h2, h3⟩⟩
      subst hu
      go_wp2
      go_ret
      exact ⟨hB.out, .inl ⟨hOk.out, _, rfl, hNums.out⟩⟩
end
end Go.Proofs.Ytlbapnecmhlgmaa
