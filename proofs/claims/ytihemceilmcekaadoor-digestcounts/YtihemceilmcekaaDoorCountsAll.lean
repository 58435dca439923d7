/- The law DigestCounts, out of the contracts; its arguments opened. -/
import Derived.Test.YtihemceilmcekaaDoorCounts
import Derived.Test.YtihemceilmcekaaDoorNone
import Derived.Test.YtihemceilmcekaaDoorKit3
import Derived.Deep.Slices
namespace Go.Proofs.YtihemceilmcekaaDoor
open Go.ChangeShapes Go.WideShapes Go.ChangeAt Go.RowKit Go.Deep

theorem counts_any (a : Option Addr) (b off len cap : Nat) (g : Nat → Nat → Int) (ta : Option Addr) (tb toff tlen tcap : Nat) (z : Nat → Int) (w : World) (hF : FTab w) (hK : KTab w) (hD : Ds w a b off len g) (hT : Is w ta tb toff tlen z) (hg : ∀ i j, 0 ≤ g i j ∧ g i j < 256)
    (h1 : len ≤ 9223372036854775807) (h2 : tlen ≤ 9223372036854775807) :
    Calls Tryd.prog 6 #[.slice a len cap, .slice ta tlen tcap] w fun e w' => e = .returned (.bool true) ∧ Below w.heap.size w w' := by
  by_cases h : 200 < len ∨ 200 < tlen
  · exact long_counts a len cap ta tlen tcap w h h1 h2
  · have hpF : ∀ wr, Below w.heap.size w wr → FTab wr ∧ KTab wr := fun wr hb => by
      obtain ⟨t, fr, h0⟩ := hF
      obtain ⟨t', fr', h0'⟩ := hK
      have l0 : 0 < w.heap.size := (Array.getElem?_eq_some_iff.1 h0).1
      have l1 : 1 < w.heap.size := (Array.getElem?_eq_some_iff.1 h0').1
      exact ⟨⟨t, fr, (hb.block 0 l0).trans h0⟩, ⟨t', fr', (hb.block 1 l1).trans h0'⟩⟩
    refine law_counts a b off len cap g ta tb toff tlen tcap z (arr (dig (hs (fun _ => 0) 0 64 1)) 32) w hD hT (by omega) (by omega) (arr_size _ _) (arr_one _ _) ?_ ?_ (fun wr hb => ?_) (fun wr v m hown hm1 hm2 hm3 => ?_) (fun wr => ?_)
    · rw [arr_at _ 32 0 (by decide), none_first]
    · rw [arr_at _ 32 31 (by decide), none_last]
    · exact sum_any none 0 0 0 0 0 0 1 (fun _ => 0) wr (hpF wr hb).1 (hpF wr hb).2 ⟨fun h => absurd h (by omega), fun i hi => absurd hi (by omega), fun _ => by decide, fun _ _ => rfl⟩ (fun _ => ⟨rfl, rfl⟩) (by omega) (by omega) (by omega) rfl (by omega) rfl
    · obtain ⟨a', b', c', rfl, hDs⟩ := own_ds hown
      have hbd : ∀ i j, 0 ≤ allD g len z i j ∧ allD g len z i j < 256 := fun i j => by unfold allD; split <;> exact hg _ _
      have hkl := fun i => key_some (allD g len z i) (hbd i)
      obtain ⟨kl, hkl⟩ := Classical.axiomOfChoice hkl
      have HC := distinct_any a' b' 0 m c' (allD g len z) kl wr (by omega) hDs (fun i _ => hkl i)
      have hsz : Maps.size (Maps.setOf (H := Unit) (.agg []) ((List.range m).map kl)) = cnt g len := by
        by_cases hl0 : len = 0
        · rw [hm3 hl0, hl0]; rfl
        · have hh := count_all (allD g len z) kl hkl len (fun i hi => by
            obtain ⟨q, _, _, _, _, hq⟩ := ix_spec len (z (i - len)) (by omega)
            refine ⟨ix len (z (i - len)), hq, fun b _ => ?_⟩
            unfold allD
            rw [if_neg (by omega), if_pos hq]) (m - len)
          rw [show len + (m - len) = m by omega] at hh
          rw [hh]
          exact cnt_congr _ _ len (fun i hi => by unfold allD; rw [if_pos hi])
      rw [hsz] at HC
      exact HC
    · have HC := distinct_any none 0 0 0 0 (fun _ _ => 0) (fun _ => .bool true) wr (by omega) ⟨fun h => absurd h (by omega), fun i hi => absurd hi (by omega)⟩ (fun i hi => absurd hi (by omega))
      exact HC

section
variable {H : Type} {enc : TypeId × Value → H} {W : World}
theorem open_cells {fuel : Nat} {cs : List Value} {x : DataW H × List MemPlace} (h : DataW.trod enc Tryd.prog W 0 (fun _ => true) true fuel 23 cs = some x) : ∃ f : Nat → Int, cs = (arr f 32).toList ∧ ∀ i, 0 ≤ f i ∧ f i < 256 := by
  obtain ⟨xs, m, _, _, hl, hxl, hall⟩ := DataW.trod_array Tryd.underlying23 h
  rw [cells23] at hl
  have hz : ∀ i, i < 32 → ∃ z : Int, cs[i]? = some (.int .u8 z) ∧ 0 ≤ z ∧ z < 256 := fun i hi => by
    have h1 := hall i hi
    rw [cells5, Nat.mul_one] at h1
    have hlt : i < xs.length := by omega
    rw [List.getElem?_eq_getElem hlt] at h1
    obtain ⟨z, hcz, _, hwf⟩ := DataW.trod_int Tryd.underlying5 h1
    have h2 : cs[i]? = some (.int .u8 z) := by
      have := congrArg (·[0]?) hcz
      simpa [List.getElem?_take, List.getElem?_drop] using this
    simp only [Lit.wf, IntKind.min, IntKind.max, IntKind.signed, IntKind.bits, Bool.and_eq_true] at hwf
    simp at hwf
    exact ⟨z, h2, by omega, by omega⟩
  obtain ⟨F, hF⟩ : ∃ F : Nat → Int, ∀ i, F i = if i < 32 then (match cs[i]? with | some (.int _ z) => z | _ => 0) else 0 := ⟨_, fun _ => rfl⟩
  have hFi : ∀ i, i < 32 → cs[i]? = some (.int .u8 (F i)) ∧ 0 ≤ F i ∧ F i < 256 := fun i hi => by
    obtain ⟨z, h2, h3, h4⟩ := hz i hi
    rw [hF i, if_pos hi, h2]
    exact ⟨rfl, h3, h4⟩
  refine ⟨F, ?_, fun i => ?_⟩
  · apply List.ext_getElem?
    intro i
    have e : (arr F 32).toList[i]? = (arr F 32)[i]? := Array.getElem?_toList
    rw [e]
    by_cases hi : i < 32
    · rw [arr_at _ 32 i hi, (hFi i hi).1]
    · rw [List.getElem?_eq_none (by omega), Array.getElem?_eq_none (by rw [arr_size]; omega)]
  · by_cases hi : i < 32
    · exact (hFi i hi).2
    · rw [hF i, if_neg hi]
      decide

theorem add_plain2 (b off i : Nat) : (⟨b, off, none⟩ : Addr).add i = ⟨b, off + i, none⟩ := by unfold Addr.add; split <;> simp_all

theorem open_digests {a : Option Addr} {len cap : Nat} {d : DataW H} {p : List MemPlace} (h : DataW.Trod enc Tryd.prog W 0 (fun _ => true) true 38 (.slice a len cap) d p) :
    ∃ b off g, Ds W a b off len g ∧ (∀ i j, 0 ≤ g i j ∧ g i j < 256) ∧ len ≤ maxLen := by
  obtain ⟨fuel, hf⟩ := h
  rcases open_slice Tryd.underlying38 hf with ⟨hcs, _⟩ | ⟨x', l, c, m, n, D, Pl, hcs, _, hl, hm, hmm, hx, hall⟩
  · simp [Value.cells] at hcs
    obtain ⟨rfl, rfl, rfl⟩ := hcs
    exact ⟨0, 0, fun _ _ => 0, ⟨fun h => absurd h (by omega), fun i hi => absurd hi (by omega)⟩, fun _ _ => ⟨Int.le_refl 0, (by decide : (0 : Int) < 256)⟩, by decide⟩
  · simp [Value.cells] at hcs
    obtain ⟨rfl, rfl, rfl⟩ := hcs
    simp only [if_true] at hmm
    subst hmm
    rw [cells23] at hall
    have hsp0 : 0 < len → x' = ⟨x'.block, x'.off, none⟩ := fun h0 => by
      obtain ⟨cs', h1, h2⟩ := hall 0 (by omega)
      obtain ⟨_, hlen6, hcell⟩ := World.cells?_some h1
      have h3 := hcell 0 (by omega)
      rw [List.getElem?_eq_getElem (by omega)] at h3
      obtain ⟨bb, oo, sp⟩ := x'
      have hs : sp = none := by simpa [Addr.add] using World.cell?_spot h3
      rw [hs]
    have each : ∀ i, i < len → ∃ f : Nat → Int, (∀ j, 0 ≤ f j ∧ f j < 256) ∧ W.rangeAt x'.block (x'.off + i * 32) (arr f 32).toList := fun i hi => by
      obtain ⟨cs', h1, h2⟩ := hall i (by omega)
      obtain ⟨f, hf1, hf2⟩ := open_cells h2
      obtain ⟨_, hlen6, hcell⟩ := World.cells?_some h1
      refine ⟨f, hf2, fun j v hv => ?_⟩
      have hj : j < 32 := by
        have := (List.getElem?_eq_some_iff.1 hv).1
        simpa [arr_size] using this
      have hc := hcell j (by omega)
      rw [hsp0 (by omega), add_plain2, add_plain2, hf1] at hc
      rw [hc]
      exact hv
    obtain ⟨g, hgg⟩ := choose_lt each
    refine ⟨x'.block, x'.off, fun i => if i < len then g i else fun _ => 0, ⟨fun h0 => congrArg some (hsp0 h0), fun i hi => ?_⟩, fun i j => ?_, by omega⟩
    · simp only [if_pos hi]
      exact (hgg i hi).2
    · by_cases hi : i < len
      · simp only [if_pos hi]; exact (hgg i hi).1 j
      · simp only [if_neg hi]; decide

theorem open_nums {a : Option Addr} {len cap : Nat} {d : DataW H} {p : List MemPlace} (h : DataW.Trod enc Tryd.prog W 0 (fun _ => true) true 39 (.slice a len cap) d p) :
    ∃ b off z, Is W a b off len z ∧ len ≤ maxLen := by
  obtain ⟨fuel, hf⟩ := h
  rcases open_ints Tryd.underlying39 Tryd.underlying3 (by kernel_rfl) hf with ⟨hcs, _⟩ | ⟨x, l, c, zs, hcs, _, hl, hm, hz, _, hcell, hwz⟩
  · simp [Value.cells] at hcs
    obtain ⟨rfl, rfl, rfl⟩ := hcs
    exact ⟨0, 0, fun _ => 0, ⟨fun h => absurd h (by omega), fun i hi => absurd hi (by omega), fun _ => by decide⟩, by decide⟩
  · simp [Value.cells] at hcs
    obtain ⟨rfl, rfl, rfl⟩ := hcs
    have hz' : zs.length = cap := by simpa using hz
    have hsp : 0 < len → x = ⟨x.block, x.off, none⟩ := fun h0 => by
      have h3 := hcell 0 (by omega)
      obtain ⟨bb, oo, sp⟩ := x
      have hs : sp = none := by simpa [Addr.add] using World.cell?_spot h3
      rw [hs]
    refine ⟨x.block, x.off, fun i => zs.getD i 0, ⟨fun h0 => congrArg some (hsp h0), fun i hi => ?_, fun i => ?_⟩, by omega⟩
    · have h3 := hcell i (by omega)
      rw [hsp (by omega), add_plain2] at h3
      exact h3
    · by_cases hi : i < zs.length
      · have h := hwz (zs.getD i 0) (by simp [List.getD, List.getElem?_eq_getElem hi])
        simp only [Lit.wf, IntKind.min, IntKind.max, IntKind.signed, IntKind.bits, Bool.and_eq_true] at h
        simp at h
        simp only [List.getD_eq_getElem?_getD]
        omega
      · rw [List.getD, List.getElem?_eq_none (by omega)]; decide
end
end Go.Proofs.YtihemceilmcekaaDoor
