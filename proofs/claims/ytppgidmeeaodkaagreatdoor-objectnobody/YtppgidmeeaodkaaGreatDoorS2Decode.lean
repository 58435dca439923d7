/- The walk of bits.Decode: the bytes of signs of five bits, or ErrForm. -/
import Derived.Test.YtppgidmeeaodkaaGreatDoorS2Encode
namespace Go.Proofs.YtppgidmeeaodkaaGreatDoor.S2
set_option maxRecDepth 20000
open Go.RowKit Math

theorem ownsRow_base {w : World} {B B' e size n : Nat} {v : Value} {xs : List Value} (h : w.ownsRow B e size v n xs) (hB : B' ≤ B) : w.ownsRow B' e size v n xs := by
  obtain ⟨h1, h2 | ⟨g, cap, cur, e1, e2, e3⟩⟩ := h
  · exact ⟨h1, .inl h2⟩
  · exact ⟨h1, .inr ⟨g, cap, cur, e1, by omega, e3⟩⟩

/-- The bytes of the text's first k signs, told as numbers. -/
def rowV (vs : Nat → Nat) (k : Nat) : Nat → Value := fun j => .int .u8 (if j < k then (vs j : Int) else 0)

theorem rowV_step (vs : Nat → Nat) (k j : Nat) : (if j = k then Value.int .u8 (vs k) else rowV vs k j) = rowV vs (k + 1) j := by
  unfold rowV
  by_cases e : j = k
  · subst e; rw [if_pos rfl, if_pos (by omega)]
  · rw [if_neg e]
    by_cases h : j < k
    · rw [if_pos h, if_pos (by omega)]
    · rw [if_neg h, if_neg (by omega)]

set_option maxHeartbeats 1000000 in
theorem decode_bad (s : ByteArray) (vs : Nat → Nat) (m : Nat) (w : World) (hT : Tab w) (hn : s.size ≤ 281474976710656) (hm : m < s.size)
    (hvs : ∀ k, (h : k < s.size) → k < m → vs k < 32 ∧ sg (vs k) = (s[k].toNat : Int)) (hno : ∀ k, k < 32 → sg k ≠ (s[m].toNat : Int)) :
    Calls Tryz.prog 230 #[.string s] w fun e w' => e = .returned (.tuple #[.slice none 0 0, .int .i64 10]) ∧ Below w.heap.size w w' := by
  have hmk := run_make_row' (P := Tryz.prog) 36 5 (.int .u8 0) 1 Tryz.underlying36 Tryz.info5 rfl .i64 .i64 s.size (by omega) (by omega)
  have hT0 := hT.pos
  go_enter Tryz.func230, Tryz.ntmps230
  go_wp2
  clear hmk
  go_loopw [16] (fun i wr => ∃ k : Nat, k ≤ m ∧ i = .int .i64 k ∧ Below w.heap.size w wr ∧ wr.rowIs w.heap.size 5 s.size (rowV vs k)) (fun i _ => s.size - (intOf i).toNat)
  case atStart =>
    exact ⟨0, Nat.zero_le _, rfl, (Below.refl _ _).alloc (Nat.le_refl _) _, (World.rowIs_made w _ s.size 5).congr (fun j hj => by simp [rowV])⟩
  case round =>
    obtain ⟨k, hk, rfl, hb, hrow⟩ := hrel
    have hks : k < s.size := by omega
    have hTr := hT.below hb hT0
    obtain ⟨c, hc⟩ : ∃ c : Int, (s[k].toNat : Int) = c := ⟨_, rfl⟩
    by_cases hlt : k < m
    · obtain ⟨h32, hsg⟩ := hvs k hks hlt
      have HV := valueOf_yes (vs k) c wr hTr h32 (hsg.trans hc)
      have hcl := hrow.cell hks
      have hfz := hrow.frozen k
      have HR := hrow.set k (.int .u8 (vs k))
      clear hvs hno hsg hTr
      go_wp2_with fail
      refine HV.mono ?_
      rintro e w1 ⟨rfl, hw1⟩
      subst hw1
      clear HV hc
      go_wp2
      go_roundw
      case rel => exact ⟨k + 1, by omega, by go_num, hb.setCell (Nat.le_refl _) _, HR.congr (fun j _ => rowV_step vs k j)⟩
      case measure => simp [intOf]; omega
    · obtain rfl : k = m := by omega
      have HV := valueOf_no c wr hTr (fun j hj => by rw [← hc]; exact hno j hj)
      clear hvs hno hTr
      go_wp2_with fail
      refine HV.mono ?_
      rintro e w1 ⟨rfl, hw1⟩
      subst hw1
      clear HV hc
      go_wp2
      go_ret2
      exact ⟨rfl, hb⟩

set_option maxHeartbeats 1000000 in
theorem decode_any (s : ByteArray) (vs : Nat → Nat) (w : World) (hT : Tab w) (hn : s.size ≤ 281474976710656)
    (hvs : ∀ k, (h : k < s.size) → sg (vs k) = (s[k].toNat : Int)) (h32 : ∀ k, vs k < 32) :
    Calls Tryz.prog 230 #[.string s] w fun e w' => ∃ q l, 5 * s.size = 8 * q + l ∧ l < 8 ∧ Below w.heap.size w w' ∧
      ((l < 5 ∧ val (bitAt 5 fun i => (vs i : Int)) (8 * q) l = 0 ∧ ∃ v, e = .returned (.tuple #[v, .int .i64 0]) ∧ w'.ownsRow w.heap.size 5 1 v q (row (bitAt 5 fun i => (vs i : Int)) 8 q)) ∨
       (¬ (l < 5 ∧ val (bitAt 5 fun i => (vs i : Int)) (8 * q) l = 0) ∧ e = .returned (.tuple #[.slice none 0 0, .int .i64 10]))) := by
  have hmk := run_make_row' (P := Tryz.prog) 36 5 (.int .u8 0) 1 Tryz.underlying36 Tryz.info5 rfl .i64 .i64 s.size (by omega) (by omega)
  have hT0 := hT.pos
  go_enter Tryz.func230, Tryz.ntmps230
  go_wp2
  clear hmk
  go_loopw [16] (fun i wr => ∃ k : Nat, k ≤ s.size ∧ i = .int .i64 k ∧ Below w.heap.size w wr ∧ wr.rowIs w.heap.size 5 s.size (rowV vs k)) (fun i _ => s.size - (intOf i).toNat)
  case atStart =>
    exact ⟨0, Nat.zero_le _, rfl, (Below.refl _ _).alloc (Nat.le_refl _) _, (World.rowIs_made w _ s.size 5).congr (fun j hj => by simp [rowV])⟩
  case round =>
    obtain ⟨k, hk, rfl, hb, hrow⟩ := hrel
    have hTr := hT.below hb hT0
    by_cases hks : k < s.size
    · obtain ⟨c, hc⟩ : ∃ c : Int, (s[k].toNat : Int) = c := ⟨_, rfl⟩
      have hsg := hvs k hks
      have HV := valueOf_yes (vs k) c wr hTr (h32 k) (hsg.trans hc)
      have hcl := hrow.cell hks
      have hfz := hrow.frozen k
      have HR := hrow.set k (.int .u8 (vs k))
      clear hvs hsg hTr
      go_wp2_with fail
      refine HV.mono ?_
      rintro e w1 ⟨rfl, hw1⟩
      subst hw1
      clear HV hc
      go_wp2
      go_roundw
      case rel => exact ⟨k + 1, by omega, by go_num, hb.setCell (Nat.le_refl _) _, HR.congr (fun j _ => rowV_step vs k j)⟩
      case measure => simp [intOf]; omega
    · obtain rfl : k = s.size := by omega
      have HR := regroup_any (some ⟨w.heap.size, 0, none⟩) w.heap.size 0 s.size s.size 5 8 (fun i => (vs i : Int)) (bitAt 5 fun i => (vs i : Int)) wr (by decide) (by decide) (by decide) (by decide) hn (fun _ => rfl)
        (fun i hi => by rw [Nat.zero_add, hrow.cell hi]; simp [rowV, hi]) (fun i => by have := h32 i; omega) (bitAt_bd 5 _) (fun i j hj => bitAt_in 5 _ i j hj) (fun q hq => by omega)
      clear hvs hTr
      go_wp2_with fail
      refine HR.mono ?_
      rintro e w1 ⟨v, q, l, rfl, hm, hl, hown, hb1⟩
      have hbb : Below w.heap.size w w1 := hb.trans (hb1.mono hb.size)
      have hown1 := ownsRow_base hown hb.size
      clear HR hown hb1 hb hrow h32
      by_cases h5 : l < 5
      · by_cases hr : val (bitAt 5 fun i => (vs i : Int)) (8 * q) l = 0
        · go_wp2
          go_ret2
          exact ⟨q, l, hm, hl, hbb, .inl ⟨h5, hr, v, rfl, hown1⟩⟩
        · have hr' : (val (bitAt 5 fun i => (vs i : Int)) (8 * q) l != 0) = true := by simpa using hr
          go_wp2
          go_ret2
          exact ⟨q, l, hm, hl, hbb, .inr ⟨fun h => hr h.2, rfl⟩⟩
      · have HM : Hid (5 * s.size = 8 * q + l) := hm
        clear hm
        go_wp2
        go_ret2
        have hm := HM.out
        refine ⟨q, l, hm, hl, hbb, .inr ⟨fun h => absurd h h5, rfl⟩⟩
end Go.Proofs.YtppgidmeeaodkaaGreatDoor.S2
