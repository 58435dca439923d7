/- The walks of digest.rotations and of the eight numbers' round. -/
import Derived.Test.YtppgidmeeaodkaaGreatDoorS2Numbers
import Derived.Test.YtppgidmeeaodkaaGreatDoorS2Quiet
namespace Go.Proofs.YtppgidmeeaodkaaGreatDoor.S2
set_option maxRecDepth 20000
open Go.RowKit Num

/-- A word rotated by three numbers, laid over one another. -/
def rot3 (x i j k : Int) : Int := bits .xor .u32 (bits .xor .u32 (rot x i) (rot x j)) (rot x k)

theorem rotate_lit (x n : Int) (w : World) (h0 : 0 ≤ n) (h1 : n ≤ 31) : Calls Tryz.prog 262 #[.int .u32 x, .int .i64 n] w fun e w' => e = .returned (.int .u32 (rot x n)) ∧ Below w.heap.size w w' := by
  have h := and_mask_i64 5 (by decide) n
  rw [Int.emod_eq_of_lt h0 (by omega)] at h
  exact (rotate_any x n n w h h0 h1).mono fun e w' ⟨he, hw⟩ => ⟨he, by rw [hw]; exact (Below.refl _ _).drew⟩

set_option maxHeartbeats 400000 in
theorem rotations_any (x i j k : Int) (w : World) (hi0 : 0 ≤ i) (hi : i ≤ 31) (hj0 : 0 ≤ j) (hj : j ≤ 31) (hk0 : 0 ≤ k) (hk : k ≤ 31) :
    Calls Tryz.prog 263 #[.int .u32 x, .int .i64 i, .int .i64 j, .int .i64 k] w fun e w' => e = .returned (.int .u32 (rot3 x i j k)) ∧ Below w.heap.size w w' := by
  unfold rot3
  go_enter Tryz.func263, Tryz.ntmps263
  go_wp2_with fail
  refine (rotate_lit x i w hi0 hi).mono ?_
  rintro e w1 ⟨rfl, hb1⟩
  go_wp2_with fail
  refine (rotate_lit x j w1 hj0 hj).mono ?_
  rintro e w2 ⟨rfl, hb2⟩
  go_wp2_with fail
  refine (rotate_lit x k w2 hk0 hk).mono ?_
  rintro e w3 ⟨rfl, hb3⟩
  have hb2' := hb1.trans (hb2.mono hb1.size)
  go_wp2
  go_ret
  exact ⟨rfl, hb2'.trans (hb3.mono hb2'.size)⟩

/-- Eight numbers. -/
structure St where
  (a b c d e f g h : Int)
/-- .. as an array's cells. -/
def St.arr (s : St) : Array Value := #[.int .u32 s.a, .int .u32 s.b, .int .u32 s.c, .int .u32 s.d, .int .u32 s.e, .int .u32 s.f, .int .u32 s.g, .int .u32 s.h]

def chs (e f g : Int) : Int := bits .xor .u32 (bits .and .u32 e f) (bits .and .u32 (bits .xor .u32 IntKind.u32.max e) g)
def maj (a b c : Int) : Int := bits .xor .u32 (bits .xor .u32 (bits .and .u32 a b) (bits .and .u32 a c)) (bits .and .u32 b c)
/-- The eight numbers behind one round; kw: the sum of its constant and its word. -/
def rnd (s : St) (kw : Int) : St :=
  ⟨(s.h + rot3 s.e 6 11 25 + chs s.e s.f s.g + kw + (rot3 s.a 2 13 22 + maj s.a s.b s.c)) % 4294967296, s.a, s.b, s.c, (s.d + (s.h + rot3 s.e 6 11 25 + chs s.e s.f s.g + kw)) % 4294967296, s.e, s.f, s.g⟩

theorem Row.drewN {w : World} {g : Nat} {C : Array Value} {t : TypeId} (h : Row w g C t) (n : Nat) : Row (w.drewN n) g C t := h
theorem below_drewN {B : Nat} {a w : World} (h : Below B a w) (n : Nat) : Below B a (w.drewN n) := ⟨h.os, h.tape, h.output, h.size, h.block⟩
theorem results28 : Tryz.f229.results = #[.cell 4 250] := by kernel_rfl
theorem info46 : (Tryz.prog.info? 250).map (·.size) = some 8 := by kernel_rfl
theorem St.arr_size (s : St) : s.arr.size = 8 := rfl
theorem St.arr_info (s : St) : (Tryz.prog.info? 250).map (·.size) = some s.arr.size := info46
theorem St.arr_one (s : St) : s.arr.all (·.oneCell') = true := by simp [St.arr, Value.oneCell']

set_option maxHeartbeats 1000000 in
theorem round_any (s : St) (kw : Int) (w : World) :
    Calls Tryz.prog 229 #[.agg s.arr, .int .u32 kw] w fun x w' => x = .returned (.agg (rnd s kw).arr) ∧ Below w.heap.size w w' := by
  obtain ⟨a, b, c, d, e, f, g, o⟩ := s
  simp only [St.arr, rnd]
  go_enter Tryz.func229, Tryz.ntmps229
  go_wp2
  go_quiet (fail)
  go_wp2_with fail
  refine (rotations_any e 6 11 25 _ (by decide) (by decide) (by decide) (by decide) (by decide) (by decide)).mono ?_
  rintro x w1 ⟨rfl, hb1⟩
  go_wp2_with fail
  refine (rotations_any a 2 13 22 _ (by decide) (by decide) (by decide) (by decide) (by decide) (by decide)).mono ?_
  rintro x w2 ⟨rfl, hb2⟩
  have hb2' := hb1.trans (hb2.mono hb1.size)
  have hR : Row w2 (w.heap.size + 1) #[Value.int IntKind.u32 0, Value.int IntKind.u32 0, Value.int IntKind.u32 0, Value.int IntKind.u32 0, Value.int IntKind.u32 0, Value.int IntKind.u32 0, Value.int IntKind.u32 0, Value.int IntKind.u32 0] 250 := by
    have h := Row.new (w.alloc (Obj.cells #[Value.int IntKind.u32 a, Value.int IntKind.u32 b, Value.int IntKind.u32 c, Value.int IntKind.u32 d, Value.int IntKind.u32 e, Value.int IntKind.u32 f, Value.int IntKind.u32 g, Value.int IntKind.u32 o] 250)) #[Value.int IntKind.u32 0, Value.int IntKind.u32 0, Value.int IntKind.u32 0, Value.int IntKind.u32 0, Value.int IntKind.u32 0, Value.int IntKind.u32 0, Value.int IntKind.u32 0, Value.int IntKind.u32 0] 250
    rw [World.size_alloc] at h
    exact (h.drewN nq).below hb2' (h.drewN nq).lt
  have hb3 : Below w.heap.size w w2 := by
    have h := below_drewN (((Below.refl w.heap.size w).alloc (Nat.le_refl _) (Obj.cells #[Value.int IntKind.u32 a, Value.int IntKind.u32 b, Value.int IntKind.u32 c, Value.int IntKind.u32 d, Value.int IntKind.u32 e, Value.int IntKind.u32 f, Value.int IntKind.u32 g, Value.int IntKind.u32 o] 250)).alloc (by simp) (Obj.cells #[Value.int IntKind.u32 0, Value.int IntKind.u32 0, Value.int IntKind.u32 0, Value.int IntKind.u32 0, Value.int IntKind.u32 0, Value.int IntKind.u32 0, Value.int IntKind.u32 0, Value.int IntKind.u32 0] 250)) nq
    exact h.trans (hb2'.mono h.size)
  clear hb1 hb2 hb2'
  go_wp2_with (refine wpList_store_row rfl 250 _ _ rfl (w.heap.size + 1) _ rfl rfl 250 _ hR ?hi ?hold ?h1 ?_)
  case hi => exact info46
  case hold => rfl
  case h1 => simp [Value.oneCell']
  refine bodyPost_ret (results_cell_row results28 _ _ (w.heap.size + 1) 250 _ (0, 0) _ rfl hR.setRow Tryz.underlying250 rfl info46) rfl ⟨?_, below_setRow hb3 (by simp) _⟩
  rfl
end Go.Proofs.YtppgidmeeaodkaaGreatDoor.S2
