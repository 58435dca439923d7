/- The walk of bits.regroup: the bits of groups of one width told as groups of another, in new memory. -/
import Derived.Test.YtppgidmeeaodkaaGreatDoorRows
import Derived.Test.YtppgidmeeaodkaaGreatDoorS2Math
import Derived.WalkKit
import Derived.WalkSpells
import Derived.WalkLawsBesides
import Derived.Deep.OwnRows
import Derived.Deep.DeepAppendWide
namespace Go.Proofs.YtppgidmeeaodkaaGreatDoor.S2
set_option maxRecDepth 20000
open Go.RowKit Math
theorem Tryz.info5 : (Tryz.prog.info? 5).map (fun i => (i.zero, i.size, i.bytes)) = some (some (.int .u8 0), 1, 1) := by kernel_rfl

/-- The groups of t bits that are told so far. -/
def row (g : Nat → Int) (t q : Nat) : List Value := (List.range q).map fun p => .int .u8 (val g (t * p) t)

theorem row_succ (g : Nat → Int) (t q : Nat) : row g t (q + 1) = row g t q ++ [.int .u8 (val g (t * q) t)] := by
  simp [row, List.range_succ]

/-- A group is full: one more is told. -/
theorem app_step {w wr w1 : World} {g : Nat → Int} {t fr k j q n : Nat} {x y : Int} {v v' : Value} {c : Value} (hm : fr * k + j = t * q + n) (hn : n + 1 = t) (hx : x = val g (t * q) n) (hG : g (t * q + n) = y)
    (hown : wr.ownsRow w.heap.size 5 1 v q (row g t q)) (hown' : w1.ownsRow w.heap.size 5 1 v' (q + 1) (row g t q ++ [.int .u8 (x * 2 + y)])) (hgrow : (wr.alloc (.cells #[c] 5)).grownBy w1 v.ownBlock) (hb : Below w.heap.size w wr) :
    Hid (fr * k + (j + 1) = t * (q + 1) + 0) ∧ w1.ownsRow w.heap.size 5 1 v' (q + 1) (row g t (q + 1)) ∧ Below w.heap.size w w1 := by
  refine ⟨?_, ?_, ?_⟩
  · show fr * k + (j + 1) = t * (q + 1) + 0
    rw [Nat.mul_add]; omega
  · rw [row_succ, ← hn]
    simp only [val]
    rw [hn, ← hx, hG]
    exact hown'
  · have hsz := hb.size
    refine (hb.alloc hsz _).grown hgrow (by simp; omega) (fun r hr => ?_)
    obtain ⟨_, ⟨rfl, _⟩ | ⟨g', cap, cur, rfl, hle, _⟩⟩ := hown
    · cases hr
    · simp [Value.ownBlock] at hr; omega

set_option maxRecDepth 20000 in
set_option maxHeartbeats 1000000 in
theorem regroup_any (a : Option Addr) (b off len cap fr t : Nat) (f g : Nat → Int) (w : World) (hfr : 1 ≤ fr) (hfr8 : fr ≤ 8) (ht : 1 ≤ t) (ht8 : t ≤ 8) (hlen : len ≤ 281474976710656)
    (ha : 0 < len → a = some ⟨b, off, none⟩) (hcell : ∀ i, i < len → w.cell? ⟨b, off + i, none⟩ = some (.int .u8 (f i))) (hf : ∀ i, 0 ≤ f i ∧ f i < 256)
    (hg : ∀ k, 0 ≤ g k ∧ g k ≤ 1) (hgf : ∀ i j, j < fr → g (fr * i + j) = f i / 2 ^ (fr - 1 - j) % 2)
    (hroom : ∀ q, t * q ≤ fr * len → q + q / 4 + 192 ≤ 281474976710656) :
    Calls Tryz.prog 192 #[.slice a len cap, .int .i64 fr, .int .i64 t] w fun e w' => ∃ v q l, e = .returned (.tuple #[v, .int .u8 (val g (t * q) l), .int .i64 (l : Nat)]) ∧ fr * len = t * q + l ∧ l < t ∧
      w'.ownsRow w.heap.size 5 1 v q (row g t q) ∧ Below w.heap.size w w' := by
  obtain ⟨i0, hi, hz0, hz1, hz2⟩ := info_parts Tryz.info5
  go_enter Tryz.func192, Tryz.ntmps192
  go_wp2
  go_loopw [6, 7, 8, 14] (fun v r l i wr => ∃ k q n : Nat, k ≤ len ∧ i = .int .i64 k ∧ l = .int .i64 n ∧ r = .int .u8 (val g (t * q) n) ∧ Hid (fr * k = t * q + n) ∧ n < t ∧
      wr.ownsRow w.heap.size 5 1 v q (row g t q) ∧ Below w.heap.size w wr) (fun _ _ _ i _ => len - (intOf i).toNat)
  case atStart => exact ⟨0, 0, 0, Nat.zero_le _, rfl, rfl, rfl, by show fr * 0 = t * 0 + 0; omega, by omega, World.ownsRow_nil _ _ _ _, Below.refl _ _⟩
  case round =>
    obtain ⟨k, q, n, hk, rfl, rfl, rfl, hm, hn, hown, hb⟩ := hrel
    by_cases hlt : k < len
    · have hc : wr.cell? ⟨b, off + k, none⟩ = some (.int .u8 (f k)) := by
        rw [hb.cell (p := ⟨b, off + k, none⟩) (World.block_lt_of_cell? _ _ (hcell k hlt))]; exact hcell k hlt
      obtain rfl := ha (by omega)
      have hfk := hf k
      go_wp2
      clear hc
      go_loopw [6, 7, 8, 19] (fun v r l i wi => ∃ j q n : Nat, j ≤ fr ∧ i = .int .i64 j ∧ l = .int .i64 n ∧ (∃ x : Int, r = .int .u8 x ∧ 0 ≤ x ∧ x < 128 ∧ Hid (x = val g (t * q) n)) ∧ Hid (fr * k + j = t * q + n) ∧ n < t ∧
          wi.ownsRow w.heap.size 5 1 v q (row g t q) ∧ Below w.heap.size w wi) (fun _ _ _ i _ => fr - (intOf i).toNat)
      case atStart =>
        have hx := val_bd7 g hg (t * q) n (by omega)
        exact ⟨0, q, n, Nat.zero_le _, rfl, rfl, ⟨_, rfl, hx.1, hx.2, rfl⟩, hm, hn, hown, hb⟩
      case round =>
        clear hown hb hm hn
        obtain ⟨j, q', n', hj, rfl, rfl, ⟨x, rfl, hx0, hx1, hx⟩, hm, hn, hown, hb⟩ := hrel
        by_cases hjl : j < fr
        · obtain ⟨y, hy⟩ : ∃ y, f k / 2 ^ (fr - 1 - j) = y := ⟨_, rfl⟩
          have hy0 : 0 ≤ y := by rw [← hy]; exact Int.ediv_nonneg hfk.1 (Int.le_of_lt (two_pow_pos _))
          have hy1 : y < 256 := by rw [← hy]; exact Int.lt_of_le_of_lt (Int.ediv_le_self _ hfk.1) hfk.2
          have hand := and_one y hy0 hy1
          have hor := or_bit x (y % 2) hx0 hx1 (by omega) (by omega)
          have HG : Hid (g (t * q' + n') = y % 2) := by
            show g (t * q' + n') = y % 2
            rw [← hm.out, hgf k j hjl, hy]
          by_cases hnt : n' + 1 = t
          · have hq : t * (q' + 1) ≤ fr * len := by
              have h1 := hm.out
              have h2 : fr * (k + 1) ≤ fr * len := Nat.mul_le_mul_left _ hlt
              rw [Nat.mul_add] at h2 ⊢
              omega
            have hr := hroom (q' + 1) hq
            have hsz := hb.size
            go_wp2_with (at_builtin; refine wpList_append_own_wide _ rfl _ _ 36 rfl w.heap.size 5 i0 (.int .u8 0) 1 1 Tryz.underlying36 hi hz0 hz1 hz2 rfl (by decide) _ _ _ rfl (hown.alloc _) ⟨wr.heap.size, 0, none⟩ 1 1 [.int .u8 (x * 2 + y % 2)] rfl rfl ?c1 ?c2 ?c3 ?c4 ?c5 ?_)
            case c1 => exact cell_one_new _ _ _
            case c2 => intro u hu; simp at hu; subst hu; rfl
            case c3 => unfold maxLen; omega
            case c4 => omega
            case c5 => simp; omega
            intro v' w1 hown' hgrow _
            have R := app_step hm.out hnt hx.out HG.out hown hown' hgrow hb
            clear hown' hgrow hown hb hq hr
            go_wp2
            go_roundw
            case rel => exact ⟨j + 1, q' + 1, 0, by omega, by go_num, rfl, ⟨0, rfl, by decide, by decide, rfl⟩, R.1, by omega, R.2.1, R.2.2⟩
            case measure => simp [intOf]; omega
          · go_wp2
            go_roundw
            case rel =>
              have e : x * 2 + y % 2 = val g (t * q') (n' + 1) := by simp only [val]; rw [← hx.out, HG.out]
              have hx' := val_bd7 g hg (t * q') (n' + 1) (by omega)
              have hm' := hm.out
              exact ⟨j + 1, q', n' + 1, by omega, by go_num, by go_num, ⟨_, rfl, by omega, by omega, e⟩, by show fr * k + (j + 1) = t * q' + (n' + 1); omega, by omega, hown, hb⟩
            case measure => simp [intOf]; omega
        · go_wp2
          go_roundw
          case rel =>
            have hm' := hm.out
            exact ⟨k + 1, q', n', by omega, by go_num, rfl, by rw [hx.out], by show fr * (k + 1) = t * q' + n'; rw [Nat.mul_add]; omega, hn, hown, hb⟩
          case measure => simp [intOf]; omega
    · go_wp2
      go_ret3
      obtain rfl : k = len := by omega
      exact ⟨_, q, n, rfl, hm, hn, hown, hb⟩
end Go.Proofs.YtppgidmeeaodkaaGreatDoor.S2
