/- The walk of digest.Sum. -/
import Derived.Test.YtpkbfljoakodoaaDoorXC
import Derived.Test.YtpkbfljoakodoaaDoorS2Kit
namespace Go.Proofs.YtpkbfljoakodoaaDoor.S2
set_option maxRecDepth 20000
open Go.RowKit Num

theorem info45 : (Tryd.prog.info? 89).map (·.size) = some 8 := by kernel_rfl
theorem slice_lh (b off len cap k n : Nat) (hk : k < cap) (hn : k + n ≤ cap) (l h : Int) (hl : l = k) (hh : h = k + n) (w : World) :
    (Instr.slice 22 (.slice (some ⟨b, off, none⟩) len cap) (some (.int .i64 l)) (some (.int .i64 h)) none).run Tryd.prog w = .ok (.slice (some ⟨b, off + k, none⟩) n (cap - k)) w := by
  subst hl
  obtain rfl : h = ((k + n : Nat) : Int) := by omega
  obtain ⟨i0, hi, _, hz1, _⟩ := info_parts Tryd.info5
  have e : ((k : Int) + (n : Int)).toNat = k + n := by omega
  have h0 : (0 : Int) ≤ (k : Int) + (n : Int) := by omega
  have h1 : (k : Int) + (n : Int) ≤ (cap : Int) := by omega
  have h2 : (k : Int) ≤ (k : Int) + (n : Int) := by omega
  simp [Instr.slice, run_underlying Tryd.underlying22, Instr.sliceBounds, run_sliceBound, sizeOf, typeInfo, hi, hz1, Addr.add_mid, show ¬ cap = k by omega, e, h0, h1, h2]
theorem slice_l (b off len cap k : Nat) (hk : k < cap) (hn : k ≤ len) (l : Int) (hl : l = k) (w : World) :
    (Instr.slice 22 (.slice (some ⟨b, off, none⟩) len cap) (some (.int .i64 l)) none none).run Tryd.prog w = .ok (.slice (some ⟨b, off + k, none⟩) (len - k) (cap - k)) w := by
  subst hl
  obtain ⟨i0, hi, _, hz1, _⟩ := info_parts Tryd.info5
  have h1 : (k : Int) ≤ (len : Int) := by omega
  simp [Instr.slice, run_underlying Tryd.underlying22, Instr.sliceBounds, run_sliceBound, sizeOf, typeInfo, hi, hz1, Addr.add_mid, show ¬ cap = k by omega, h1]

theorem slice_any (ad : Addr) (len cap k : Nat) (hn : k ≤ len) (l : Int) (hl : l = k) (w : World) :
    (Instr.slice 22 (.slice (some ad) len cap) (some (.int .i64 l)) none none).run Tryd.prog w = .ok (.slice (some (if cap = k then ad else ad.add k)) (len - k) (cap - k)) w := by
  subst hl
  obtain ⟨i0, hi, _, hz1, _⟩ := info_parts Tryd.info5
  have h1 : (k : Int) ≤ (len : Int) := by omega
  simp [Instr.slice, run_underlying Tryd.underlying22, Instr.sliceBounds, run_sliceBound, sizeOf, typeInfo, hi, hz1, h1]
  split <;> rfl
/-- What is left over behind the whole chunks, as a slice. -/
theorem rest_slice (a : Option Addr) (b off len cap q n : Nat) (h0 : 0 < len → a = some ⟨b, off, none⟩) (hnone : a = none → len = 0 ∧ cap = 0) (hlc : len ≤ cap) (hq : len = 64 * q + n) :
    ∃ sp sc, (∀ w : World, (Instr.slice 22 (.slice a len cap) (some (.int .i64 (64 * (q : Int)))) none none).run Tryd.prog w = .ok (.slice sp n sc) w) ∧ (0 < n → sp = some ⟨b, off + 64 * q, none⟩) := by
  cases a with
  | none =>
    obtain ⟨rfl, rfl⟩ := hnone rfl
    obtain rfl : q = 0 := by omega
    obtain rfl : n = 0 := by omega
    obtain ⟨i0, hi, _, _, _⟩ := info_parts Tryd.info5
    exact ⟨none, 0, fun w => by simp [Instr.slice, run_underlying Tryd.underlying22, Instr.sliceBounds, run_sliceBound, sizeOf, typeInfo, hi], fun h => by omega⟩
  | some ad =>
    refine ⟨_, _, fun w => by rw [slice_any ad len cap (64 * q) (by omega) (64 * (q : Int)) (by omega) w, show len - 64 * q = n by omega], fun h => ?_⟩
    have e := Option.some.inj (h0 (by omega))
    rw [if_neg (by omega), e, Addr.add_mid]

def zeros128 : Array Value := #[.int .u8 0, .int .u8 0, .int .u8 0, .int .u8 0, .int .u8 0, .int .u8 0, .int .u8 0, .int .u8 0, .int .u8 0, .int .u8 0, .int .u8 0, .int .u8 0, .int .u8 0, .int .u8 0, .int .u8 0, .int .u8 0, .int .u8 0, .int .u8 0, .int .u8 0, .int .u8 0, .int .u8 0, .int .u8 0, .int .u8 0, .int .u8 0, .int .u8 0, .int .u8 0, .int .u8 0, .int .u8 0, .int .u8 0, .int .u8 0, .int .u8 0, .int .u8 0, .int .u8 0, .int .u8 0, .int .u8 0, .int .u8 0, .int .u8 0, .int .u8 0, .int .u8 0, .int .u8 0, .int .u8 0, .int .u8 0, .int .u8 0, .int .u8 0, .int .u8 0, .int .u8 0, .int .u8 0, .int .u8 0, .int .u8 0, .int .u8 0, .int .u8 0, .int .u8 0, .int .u8 0, .int .u8 0, .int .u8 0, .int .u8 0, .int .u8 0, .int .u8 0, .int .u8 0, .int .u8 0, .int .u8 0, .int .u8 0, .int .u8 0, .int .u8 0, .int .u8 0, .int .u8 0, .int .u8 0, .int .u8 0, .int .u8 0, .int .u8 0, .int .u8 0, .int .u8 0, .int .u8 0, .int .u8 0, .int .u8 0, .int .u8 0, .int .u8 0, .int .u8 0, .int .u8 0, .int .u8 0, .int .u8 0, .int .u8 0, .int .u8 0, .int .u8 0, .int .u8 0, .int .u8 0, .int .u8 0, .int .u8 0, .int .u8 0, .int .u8 0, .int .u8 0, .int .u8 0, .int .u8 0, .int .u8 0, .int .u8 0, .int .u8 0, .int .u8 0, .int .u8 0, .int .u8 0, .int .u8 0, .int .u8 0, .int .u8 0, .int .u8 0, .int .u8 0, .int .u8 0, .int .u8 0, .int .u8 0, .int .u8 0, .int .u8 0, .int .u8 0, .int .u8 0, .int .u8 0, .int .u8 0, .int .u8 0, .int .u8 0, .int .u8 0, .int .u8 0, .int .u8 0, .int .u8 0, .int .u8 0, .int .u8 0, .int .u8 0, .int .u8 0, .int .u8 0, .int .u8 0, .int .u8 0, .int .u8 0, .int .u8 0]
theorem zeros128_arr : zeros128 = arr (fun _ => 0) 128 := by kernel_rfl
theorem tail2_set (f : Nat → Int) (W n : Nat) : (arr (tail1 f W n) 128).setIfInBounds n (.int .u8 128) = arr (tail2 f W n) 128 :=
  arr_set _ _ _ _ _ (fun _ _ => rfl)

end Go.Proofs.YtpkbfljoakodoaaDoor.S2
