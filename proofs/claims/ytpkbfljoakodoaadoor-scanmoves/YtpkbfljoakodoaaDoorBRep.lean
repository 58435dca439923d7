/- My own work: bytes with all instances of other bytes replaced; slices of bytes, cut. -/
import Derived.Test.YtpkbfljoakodoaaDoorShB
import Derived.Test.YtpkbfljoakodoaaDoorSText
import Derived.Lib.SlBuf
import Derived.Lib.Replace
import Derived.Lib.CountLaws
namespace Go.Proofs.YtpkbfljoakodoaaDoor
open Go.RowKit
open S2 (bl bl_len bl_inj)

theorem infoB5 : (Tryd.prog.info? 5).map (fun i => (i.zero, i.size, i.bytes)) = some (some (.int .u8 0), 1, 1) := by kernel_rfl
/-- All instances replaced. -/
def rpl (old new l : List UInt8) : List UInt8 := Lib.replaceK old new (Lib.count l old) l
def numsB (l : List UInt8) : List Int := l.map fun x => (x.toNat : Int)
theorem numsB_len (l : List UInt8) : (numsB l).length = l.length := by simp [numsB]
theorem bytesOf_numsB (l : List UInt8) : Lib.bytesOf (numsB l) = l := by
  unfold Lib.bytesOf numsB
  rw [List.map_map]
  conv => rhs; rw [← List.map_id l]
  refine List.map_congr_left fun x _ => ?_
  simp
theorem numsB_rng (l : List UInt8) : ∀ x ∈ numsB l, 0 ≤ x ∧ x < 256 := fun x hx => by
  obtain ⟨y, _, rfl⟩ := List.mem_map.1 hx
  have := y.toNat_lt
  omega
/-- A slice of bytes, by its cells. -/
structure BsAt (w : World) (v : Value) (l : List UInt8) : Prop where
  ex : ∃ (a : Option Addr) (b off c : Nat), v = .slice a l.length c ∧ (0 < l.length → a = some ⟨b, off, none⟩) ∧ (∀ i (h : i < l.length), w.cell? ⟨b, off + i, none⟩ = some (.int .u8 (l[i].toNat : Int))) ∧ (a = none → l.length = 0 ∧ c = 0) ∧ l.length ≤ c ∧ c ≤ maxLen
theorem BsAt.keep {w w' : World} {v : Value} {l : List UInt8} (h : BsAt w v l) (hb : Below w.heap.size w w') : BsAt w' v l := by
  obtain ⟨a, b, off, c, h1, h2, h3, h4⟩ := h.ex
  exact ⟨a, b, off, c, h1, h2, fun i hi => (World.cell?_of_block (w := w) (hb.block b (World.block_lt_of_cell? _ _ (h3 i hi)))).trans (h3 i hi), h4⟩
theorem BsAt.of_bytes {w : World} {a : Option Addr} {d : ByteArray} {c : Nat} (h : BytesAt w a d c) : BsAt w (.slice a d.size c) (bl d) := by
  obtain ⟨b, off, h1, h2⟩ := h.ex
  have hl := bl_len d
  refine ⟨a, b, off, c, by rw [hl], fun hp => h1 (by omega), fun i hi => ?_, fun e => by rw [hl]; exact h.nil e, by rw [hl]; exact h.le, h.cap⟩
  rw [h2 i (by omega)]
  unfold bf
  have hi' : i < d.data.size := by rw [hl] at hi; exact hi
  rw [Array.getElem?_eq_getElem hi']
  rfl
theorem addr_plainB (b off i : Nat) : (⟨b, off, none⟩ : Addr).add i = ⟨b, off + i, none⟩ := by unfold Addr.add; split <;> simp_all
theorem BsAt.holds {w : World} {v : Value} {l : List UInt8} (h : BsAt w v l) : Lib.HoldsBytes w v l := by
  obtain ⟨a, b, off, c, rfl, h2, h3, h4, h5, h6⟩ := h.ex
  refine ⟨a, c, rfl, fun e => List.eq_nil_of_length_eq_zero (h4 e).1, fun ad e i x hx => ?_⟩
  have hi : i < l.length := (List.getElem?_eq_some_iff.1 hx).1
  have e2 := h2 (by omega)
  rw [e] at e2
  cases e2
  have := h3 i hi
  rw [(List.getElem?_eq_some_iff.1 hx).2] at this
  rw [addr_plainB]
  exact this
theorem BsAt.cells {w : World} {b off : Nat} {l : List UInt8} (h : ∀ i (h : i < l.length), w.cell? ⟨b, off + i, none⟩ = some (.int .u8 (l[i].toNat : Int))) (i : Nat) (hi : i < l.length) : w.cell? ((⟨b, off, none⟩ : Addr).add i) = some (.int .u8 ((numsB l).getD i 0)) := by
  rw [addr_plainB, h i hi]
  simp [numsB, hi]
/-- internal/bytealg.MaxLen holds some number. -/
def MxTab (w : World) : Prop := ∃ m : Int, w.cell? ⟨2, 0, none⟩ = some (.int .i64 m)
theorem MxTab.keep {w w' : World} (h : MxTab w) (hb : Below w.heap.size w w') : MxTab w' := by
  obtain ⟨m, hm⟩ := h
  exact ⟨m, (World.cell?_of_block (w := w) (hb.block _ (World.block_lt_of_cell? _ _ hm))).trans hm⟩
/-- bytes.Index at a separator of thirty-two bytes. -/
theorem idx_ok {w : World} {v u : Value} {l k : List UInt8} (hv : BsAt w v l) (hu : BsAt w u k) (hk : k.length = 32) (hl : 0 < l.length) (hs : l.length < 4294967281) (hm : MxTab w) : Calls Tryd.prog 90 #[v, u] w fun e w' => e = .returned (.int .i64 (Lib.index l k)) ∧ Below w.heap.size w w' := by
  obtain ⟨a, b, off, c, rfl, ha, hc, _, hle, _⟩ := hv.ex
  obtain ⟨a2, b2, off2, c2, rfl, ha2, hc2, _, hle2, _⟩ := hu.ex
  obtain rfl := ha hl
  obtain rfl := ha2 (by omega)
  obtain ⟨m, hm⟩ := hm
  have h := Any.bytes_Index_at Tryd.lays185 ⟨b, off, none⟩ ⟨b2, off2, none⟩ l.length c k.length c2 (numsB l) (numsB k) m w (numsB_len l) (numsB_len k) (numsB_rng l) (numsB_rng k) (BsAt.cells hc) (BsAt.cells hc2) hle hs (by omega) hm
  rw [bytesOf_numsB, bytesOf_numsB] at h
  exact h.mono fun e w' ⟨h1, q, h2⟩ => ⟨h1, by rw [h2]; exact ⟨rfl, rfl, rfl, Nat.le_refl _, fun _ _ => rfl⟩⟩
/-- bytes.Count at a separator of thirty-two bytes. -/
theorem cnt_ok {w : World} {v u : Value} {l k : List UInt8} (hv : BsAt w v l) (hu : BsAt w u k) (hk : k.length = 32) (hs : l.length < 4294967281) (hm : MxTab w) : Calls Tryd.prog 89 #[v, u] w fun e w' => e = .returned (.int .i64 (Lib.count l k : Nat)) ∧ Below w.heap.size w w' := by
  obtain ⟨a, b, off, c, rfl, ha, hc, hn, hle, _⟩ := hv.ex
  obtain ⟨a2, b2, off2, c2, rfl, ha2, hc2, _, hle2, _⟩ := hu.ex
  obtain rfl := ha2 (by omega)
  obtain ⟨m, hm⟩ := hm
  cases a with
  | none =>
    obtain ⟨h0, rfl⟩ := hn rfl
    have hl : l = [] := List.eq_nil_of_length_eq_zero h0
    subst hl
    refine (Any.bytes_Count_nil Tryd.laysSlC13 (some ⟨b2, off2, none⟩) k.length c2 w (by omega) (by omega)).mono ?_
    rintro e w' ⟨rfl, rfl⟩
    refine ⟨?_, Below.refl _ _⟩
    have : Lib.count [] k = 0 := Lib.count_miss (by
      unfold Lib.index
      rw [if_neg (by cases k with | nil => simp at hk | cons => simp)])
    rw [this]
    rfl
  | some ad =>
    have hc' : ∀ i, i < l.length → w.cell? (ad.add i) = some (.int .u8 ((numsB l).getD i 0)) := fun i hi => by
      cases ha (by omega)
      exact BsAt.cells hc i hi
    have h := Any.bytes_Count_at Tryd.laysSlC13 ad ⟨b2, off2, none⟩ l.length c k.length c2 (numsB l) (numsB k) m w (numsB_len l) (numsB_len k) (numsB_rng l) (numsB_rng k) hc' (BsAt.cells hc2) hle hs (by omega) (by omega) hm
    rw [bytesOf_numsB, bytesOf_numsB] at h
    exact h.mono fun e w' ⟨h1, q, h2⟩ => ⟨h1, by rw [h2]; exact ⟨rfl, rfl, rfl, Nat.le_refl _, fun _ _ => rfl⟩⟩
/-- Where Index tells a place the bytes stand there. -/
theorem index_at : ∀ (s sub : List UInt8) (i : Nat), sub ≠ [] → Lib.index s sub = i → i + sub.length ≤ s.length ∧ (s.drop i).take sub.length = sub
  | [], sub, i, hs, h => by
    unfold Lib.index at h
    rw [if_neg (by cases sub with | nil => exact absurd rfl hs | cons => simp)] at h
    omega
  | b :: l, sub, i, hs, h => by
    unfold Lib.index at h
    by_cases hp : sub.isPrefixOf (b :: l) = true
    · rw [if_pos hp] at h
      obtain rfl : i = 0 := by omega
      have hp' := List.isPrefixOf_iff_prefix.1 hp
      exact ⟨by simpa using hp'.length_le, by rw [List.drop_zero]; exact (List.prefix_iff_eq_take.1 hp').symm⟩
    · rw [if_neg hp] at h
      by_cases hq : (Lib.index l sub == -1) = true
      · rw [if_pos hq] at h
        omega
      · rw [if_neg hq] at h
        have hge := Lib.index_ge l sub
        obtain ⟨i', rfl⟩ : ∃ i', i = i' + 1 := ⟨i - 1, by
          have : Lib.index l sub ≠ -1 := fun e => hq (by rw [e]; rfl)
          omega⟩
        have ih := index_at l sub i' hs (by omega)
        exact ⟨by simp; omega, by simpa using ih.2⟩
/-- What is behind the first k bytes. -/
theorem bs_tail {w0 : World} {v : Value} {l : List UInt8} (h : BsAt w0 v l) (k : Nat) (hk : k ≤ l.length) : ∃ vt, (∀ w : World, (Instr.slice 22 v (some (.int .i64 (k : Int))) none none).run Tryd.prog w = .ok vt w) ∧ ∀ w : World, BsAt w v l → BsAt w vt (l.drop k) := by
  obtain ⟨i0, hi, _, hz1, _⟩ := info_parts infoB5
  obtain ⟨a, b, off, c, rfl, ha, hc, hn, hle, hcp⟩ := h.ex
  cases a with
  | none =>
    obtain ⟨h0, rfl⟩ := hn rfl
    have hl : l = [] := List.eq_nil_of_length_eq_zero h0
    subst hl
    obtain rfl : k = 0 := by simpa using hk
    exact ⟨.slice none 0 0, fun w => by simp [Instr.slice, run_underlying Tryd.underlying22, Instr.sliceBounds, run_sliceBound, sizeOf, typeInfo, hi], fun w hw => by simpa using hw⟩
  | some ad =>
    have e1 : ((k : Int) ≤ (l.length : Int)) := by omega
    refine ⟨.slice (some (if c = k then ad else ad.add k)) (l.length - k) (c - k), fun w => ?_, fun w hw => ?_⟩
    · simp [Instr.slice, run_underlying Tryd.underlying22, Instr.sliceBounds, run_sliceBound, sizeOf, typeInfo, hi, hz1, e1]
      split <;> rfl
    · obtain ⟨a', b', off', c', ev, ha', hc', hn', hle', hcp'⟩ := hw.ex
      have hd : (l.drop k).length = l.length - k := List.length_drop ..
      have ec : c' = c := by cases ev; rfl
      have ea : a' = some ad := by cases ev; rfl
      subst ec ea
      refine ⟨some (if c' = k then ad else ad.add k), b', off' + k, c' - k, by rw [hd], fun hp => ?_, fun i hi => ?_, (fun h => nomatch h), by rw [hd]; omega, by unfold maxLen at hcp' ⊢; omega⟩
      · rw [hd] at hp
        rw [if_neg (by omega)]
        cases ha' (by omega)
        rw [addr_plainB]
      · rw [hd] at hi
        rw [List.getElem_drop, Nat.add_assoc]
        exact hc' (k + i) (by omega)
/-- The bytes from k on, n of them. -/
theorem bs_mid {w0 : World} {v : Value} {l : List UInt8} (h : BsAt w0 v l) (k n : Nat) (hk : k + n ≤ l.length) (hlt : k < l.length) : ∃ vt, (∀ w : World, (Instr.slice 22 v (some (.int .i64 (k : Int))) (some (.int .i64 ((k : Int) + (n : Int)))) none).run Tryd.prog w = .ok vt w) ∧ ∀ w : World, BsAt w v l → BsAt w vt ((l.drop k).take n) := by
  obtain ⟨i0, hi, _, hz1, _⟩ := info_parts infoB5
  obtain ⟨a, b, off, c, rfl, ha, hc, hn, hle, hcp⟩ := h.ex
  obtain rfl := ha (by omega)
  refine ⟨.slice (some ⟨b, off + k, none⟩) n (c - k), fun w => ?_, fun w hw => ?_⟩
  · have e : ((k : Int) + (n : Int)).toNat = k + n := by omega
    have h0 : (0 : Int) ≤ (k : Int) + (n : Int) := by omega
    have h1 : (k : Int) + (n : Int) ≤ (c : Int) := by omega
    have h2 : (k : Int) ≤ (k : Int) + (n : Int) := by omega
    simp [Instr.slice, run_underlying Tryd.underlying22, Instr.sliceBounds, run_sliceBound, sizeOf, typeInfo, hi, hz1, Addr.add_mid, show ¬ c = k by omega, e, h0, h1, h2]
  · obtain ⟨a', b', off', c', ev, ha', hc', hn', hle', hcp'⟩ := hw.ex
    have hd : ((l.drop k).take n).length = n := by rw [List.length_take, List.length_drop]; omega
    have ec : c' = c := by cases ev; rfl
    have ea : a' = some ⟨b, off, none⟩ := by cases ev; rfl
    subst ec ea
    cases ha' (by omega)
    refine ⟨some ⟨b, off + k, none⟩, b, off + k, c' - k, by rw [hd], fun _ => rfl, fun i hi => ?_, (fun h => nomatch h), by rw [hd]; omega, by unfold maxLen at hcp' ⊢; omega⟩
    rw [hd] at hi
    rw [List.getElem_take, List.getElem_drop, Nat.add_assoc]
    exact hc' (k + i) (by omega)
end Go.Proofs.YtpkbfljoakodoaaDoor
