/- The plain facts on numbers in bytes and on rotated words. The walks of bits.Bytes, Number and Rotate, and of the document's own. The walks of digest.rotations and of the eight numbers' round. The words of all rounds: what they are, and the walk of digest.schedule. One further chunk: what the digest so far becomes, and the walk of over. The eight numbers as bytes: the walk of digest. The message of SHA-256 and the digests so far: plain facts. -/
import Derived.WalkKit
import Derived.Test.YtpkbfljoakodoaaDoorXA
import Derived.Test.YtpkbfljoakodoaaDoorXB
import Derived.Deep.RegionWith
import Derived.Deep.DrawnRows
namespace Go.Proofs.YtpkbfljoakodoaaDoor.Num
set_option maxRecDepth 20000
open Go.RowKit

theorem two_pow_pos (k : Nat) : (0 : Int) < 2 ^ k := Int.pow_pos (by decide)

theorem and_i64 (x y : Int) : bits .and .i64 x y = IntKind.i64.wrap (((BitVec.ofInt 64 x).toNat &&& (BitVec.ofInt 64 y).toNat : Nat) : Int) := by
  show IntKind.i64.wrap ((BitVec.ofInt 64 x &&& BitVec.ofInt 64 y).toNat : Int) = _
  rw [BitVec.toNat_and]

/-- A mask of the i lowest bits, of a number of whatever sign. -/
theorem and_mask_i64 (i : Nat) (hi : i ≤ 62) (x : Int) : bits .and .i64 x (2 ^ i - 1) = x % 2 ^ i := by
  have hpos : 0 < 2 ^ i := Nat.two_pow_pos i
  have hle : 2 ^ i ≤ 2 ^ 62 := Nat.pow_le_pow_right (by decide) hi
  have hc : ((2 : Int) ^ i - 1) = ((2 ^ i - 1 : Nat) : Int) := by rw [Int.natCast_sub hpos]; simp
  have hm : (2 ^ i - 1) % 2 ^ 64 = 2 ^ i - 1 := Nat.mod_eq_of_lt (by omega)
  have hx : (BitVec.ofInt 64 x).toNat % 2 ^ i = (x % 2 ^ i).toNat := by
    rw [BitVec.toNat_ofInt]
    have h1 : ((x % ((2 ^ 64 : Nat) : Int)).toNat : Int) = x % 2 ^ 64 := by
      rw [Int.toNat_of_nonneg (Int.emod_nonneg _ (by decide))]; rfl
    have hd : ((2 : Int) ^ i) ∣ 2 ^ 64 := by
      refine ⟨2 ^ (64 - i), ?_⟩
      rw [← Int.pow_add]; congr 1; omega
    have h2 : (((x % ((2 ^ 64 : Nat) : Int)).toNat % 2 ^ i : Nat) : Int) = x % 2 ^ i := by
      rw [Int.natCast_emod, h1]
      have : ((2 ^ i : Nat) : Int) = 2 ^ i := by simp
      rw [this, Int.emod_emod_of_dvd _ hd]
    omega
  rw [hc, and_i64, BitVec.ofInt_natCast, BitVec.toNat_ofNat, hm, Nat.and_two_pow_sub_one_eq_mod, hx]
  have h0 : 0 ≤ x % 2 ^ i := Int.emod_nonneg _ (Int.ne_of_gt (two_pow_pos i))
  have h1 : x % 2 ^ i < 2 ^ i := Int.emod_lt_of_pos _ (two_pow_pos i)
  have h2 : (2 : Int) ^ i ≤ 2 ^ 62 := by exact_mod_cast hle
  rw [Int.toNat_of_nonneg h0, IntKind.wrap_i64]
  omega

/-- The number of the first k bytes, the highest first. -/
def num (f : Nat → Int) : Nat → Int
  | 0 => 0
  | k + 1 => num f k * 256 + f k

theorem num_bd (f : Nat → Int) (hf : ∀ i, 0 ≤ f i ∧ f i < 256) (k : Nat) : 0 ≤ num f k ∧ num f k < 256 ^ k := by
  induction k with
  | zero => simp [num]
  | succ k ih =>
    have := hf k
    rw [Int.pow_succ]
    simp only [num]
    omega

theorem num_bd8 (f : Nat → Int) (hf : ∀ i, 0 ≤ f i ∧ f i < 256) (k : Nat) (hk : k < 8) : 0 ≤ num f k ∧ num f k < 72057594037927936 := by
  have h := num_bd f hf k
  have h2 : 256 ^ k ≤ 72057594037927936 := Nat.pow_le_pow_right (n := 256) (by decide) (show k ≤ 7 by omega)
  have e : ((256 ^ k : Nat) : Int) = (256 : Int) ^ k := by rw [Int.natCast_pow]; rfl
  omega

/-- A byte laid behind a number of at most seven. -/
theorem or_byte (x c : Int) (h0 : 0 ≤ x) (h1 : x < 72057594037927936) (h2 : 0 ≤ c) (h3 : c < 256) : bits .or .u64 (x * 256) c = x * 256 + c :=
  bits_join .u64 64 (by decide) (fun n a b => by rw [IntKind.wrap_u64]; omega) 8 (x * 256) c (by omega) (by omega) (by omega) h2 (by omega) (by omega)

/-- What bits.Rotate reckons, as the walk spells it. -/
def rot (x k : Int) : Int := bits .or .u32 (x / 2 ^ k.toNat) (x * 2 ^ (32 - k).toNat % 4294967296)

theorem or_comm_u32 (x y : Int) : bits .or .u32 x y = bits .or .u32 y x := by
  show IntKind.u32.wrap ((BitVec.ofInt 32 x ||| BitVec.ofInt 32 y).toNat : Int) = IntKind.u32.wrap ((BitVec.ofInt 32 y ||| BitVec.ofInt 32 x).toNat : Int)
  rw [BitVec.or_comm]

theorem pow_split (K : Nat) (hK : K ≤ 32) : (2 : Int) ^ (32 - K) * 2 ^ K = 4294967296 := by
  rw [← Int.pow_add, show 32 - K + K = 32 by omega]; rfl

theorem rot_eq (x : Int) (K : Nat) (hK : K ≤ 32) (h0 : 0 ≤ x) (h1 : x < 4294967296) : rot x K = x / 2 ^ K + 2 ^ (32 - K) * (x % 2 ^ K) := by
  unfold rot
  have e : ((32 : Int) - K).toNat = 32 - K := by omega
  have hP := two_pow_pos (32 - K)
  have hM := two_pow_pos K
  have hPM := pow_split K hK
  have hq0 : 0 ≤ x / 2 ^ K := Int.ediv_nonneg h0 (by omega)
  have hq1 : x / 2 ^ K < 2 ^ (32 - K) := Int.ediv_lt_of_lt_mul hM (by rw [hPM]; exact h1)
  have hr0 := Int.emod_nonneg x (b := 2 ^ K) (by omega)
  have hr1 := Int.emod_lt_of_pos x hM
  have hy0 : 0 ≤ 2 ^ (32 - K) * (x % 2 ^ K) := Int.mul_nonneg (by omega) hr0
  have hy1 : 2 ^ (32 - K) * (x % 2 ^ K) < 4294967296 := by
    rw [← hPM]; exact Int.mul_lt_mul_of_pos_left hr1 hP
  have hy2 : 2 ^ (32 - K) * (x % 2 ^ K) % 2 ^ (32 - K) = 0 := Int.mul_emod_right _ _
  have hj : (2 : Int) ^ (32 - K) ≤ 4294967296 := by
    have := Int.mul_le_mul_of_nonneg_left (show (1 : Int) ≤ 2 ^ K by omega) (Int.le_of_lt hP)
    rw [hPM] at this; omega
  rw [e, Int.toNat_natCast, show x * 2 ^ (32 - K) % 4294967296 = 2 ^ (32 - K) * (x % 2 ^ K) by rw [← hPM, Int.mul_comm x, Int.mul_emod_mul_of_pos _ _ hP], or_comm_u32]
  rw [bits_join .u32 32 (by decide) (fun n a b => by rw [IntKind.wrap_u32]; omega) (32 - K) _ _ hy0 hy2 hy1 hq0 hq1 (by omega)]
  omega

theorem rot_bd (x k : Int) : 0 ≤ rot x k ∧ rot x k < 4294967296 := by
  unfold rot
  show 0 ≤ IntKind.u32.wrap _ ∧ IntKind.u32.wrap _ < 4294967296
  rw [IntKind.wrap_u32]
  omega

theorem rot_zero (x : Int) (h0 : 0 ≤ x) (h1 : x < 4294967296) : rot x 0 = x := by
  have h := rot_eq x 0 (by decide) h0 h1
  simpa using h

theorem refrot (x : Int) (K : Nat) (hK : K ≤ 32) (h0 : 0 ≤ x) (h1 : x < 4294967296) : (x / 2 ^ K + x * 2 ^ (32 - K) % 4294967296) % 4294967296 = rot x K := by
  have hb := rot_bd x K
  have hP := two_pow_pos (32 - K)
  have hPM := pow_split K hK
  have e : x * 2 ^ (32 - K) % 4294967296 = 2 ^ (32 - K) * (x % 2 ^ K) := by rw [← hPM, Int.mul_comm x, Int.mul_emod_mul_of_pos _ _ hP]
  rw [e]
  rw [rot_eq x K hK h0 h1] at *
  exact Int.emod_eq_of_lt hb.1 hb.2

end Go.Proofs.YtpkbfljoakodoaaDoor.Num
namespace Go.Proofs.YtpkbfljoakodoaaDoor.S2
set_option maxRecDepth 20000
open Go.RowKit Num
set_option maxHeartbeats 400000 in
theorem refRotate0 (x n t : Int) (w : World) (ht : n.tmod 32 = t) (t0 : -31 ≤ t) (t1 : t ≤ 31) (hK : (t + 32) % 32 = 0) :
    Calls Tryd.prog 70 #[.int .u32 x, .int .i64 n] w fun e w' => e = .returned (.int .u32 x) ∧ w' = w := by
  go_enter Tryd.func70, Tryd.ntmps70
  go_wp2
  all_goals
    go_ret
    exact ⟨rfl, rfl⟩
set_option maxHeartbeats 400000 in
theorem refRotate1 (x n t K : Int) (w : World) (ht : n.tmod 32 = t) (t0 : -31 ≤ t) (t1 : t ≤ 31) (hK : (t + 32) % 32 = K) (k0 : 1 ≤ K) (_k1 : K ≤ 31) :
    Calls Tryd.prog 70 #[.int .u32 x, .int .i64 n] w fun e w' => e = .returned (.int .u32 ((x / 2 ^ K.toNat + x * 2 ^ (32 - K).toNat % 4294967296) % 4294967296)) ∧ w' = w := by
  go_enter Tryd.func70, Tryd.ntmps70
  go_wp2
  go_ret
  exact ⟨rfl, rfl⟩
set_option maxHeartbeats 400000 in
theorem refBytes_any (v : Int) (n : Nat) (w : World) (h1 : 1 ≤ n) (h8 : n ≤ 8) (hv : 0 ≤ v) (hv' : v ≤ 18446744073709551615) :
    Calls Tryd.prog 55 #[.int .u64 v, .int .i64 n] w fun e w' => e = .returned (.tuple #[.slice (some ⟨w.heap.size, 0, none⟩) n n, .int .i64 0]) ∧ Below w.heap.size w w' ∧ w'.heap.size = w.heap.size + 1 ∧ w'.rowIs w.heap.size 5 n (fun j => .int .u8 (v / 2 ^ (8 * (n - 1 - j)) % 256)) := by
  have hmk := run_make_row' (P := Tryd.prog) 22 5 (.int .u8 0) 1 Tryd.underlying22 Tryd.info5 rfl .i64 .i64 n (by omega) (by omega)
  go_enter Tryd.func55, Tryd.ntmps55
  go_wp2
  clear hmk
  go_loopw [0, 7] (fun u i wr => ∃ k : Nat, k ≤ n ∧ i = .int .i64 ((n : Int) - 1 - k) ∧ (∃ z : Int, u = .int .u64 z ∧ 0 ≤ z ∧ z ≤ 18446744073709551615 ∧ Hid (z = v / 2 ^ (8 * k))) ∧ Below w.heap.size w wr ∧ wr.heap.size = w.heap.size + 1 ∧ wr.rowIs w.heap.size 5 n (fun j => if n ≤ j + k then .int .u8 (v / 2 ^ (8 * (n - 1 - j)) % 256) else .int .u8 0)) (fun _ i _ => (intOf i + 1).toNat)
  case atStart =>
    refine ⟨0, Nat.zero_le _, by simp, ⟨v, rfl, hv, hv', by show v = _; simp⟩, (Below.refl _ _).alloc (Nat.le_refl _) _, by simp, (World.rowIs_made w _ n 5).congr (fun j hj => ?_)⟩
    rw [if_neg (by omega)]
  case round =>
    obtain ⟨k, hk, rfl, ⟨z, rfl, hz0, hz1, hz⟩, hb, hsz, hrow⟩ := hrel
    by_cases hlt : k < n
    · have hc := hrow.cell (i := n - 1 - k) (by omega)
      have hf := hrow.frozen (n - 1 - k)
      simp only [show ¬ n ≤ n - 1 - k + k by omega, if_false] at hc
      have HR := hrow.set (n - 1 - k) (.int .u8 (z % 256))
      go_wp2
      go_roundw
      case rel =>
        have hz' := hz.out
        refine ⟨k + 1, by omega, by congr 1; omega, ⟨z / 256, rfl, by omega, by omega, ?_⟩, hb.setCell (Nat.le_refl _) _, by simpa using hsz, HR.congr (fun j hj => ?_)⟩
        · show z / 256 = _
          rw [hz', Int.ediv_ediv_of_nonneg (Int.le_of_lt (two_pow_pos _)), show (256 : Int) = 2 ^ 8 by rfl, ← Int.pow_add]
          rfl
        by_cases e : j = n - 1 - k
        · rw [if_pos e, if_pos (by omega), e, show n - 1 - (n - 1 - k) = k by omega, hz']
        · rw [if_neg e]
          by_cases h : n ≤ j + k
          · rw [if_pos h, if_pos (by omega)]
          · rw [if_neg h, if_neg (by omega)]
      case measure => simp [intOf]; omega
    · go_wp2
      go_ret2
      exact ⟨rfl, hb, hsz, hrow.congr (fun j hj => by rw [if_pos (by omega)])⟩
set_option maxHeartbeats 400000 in
theorem refNumber_any (b off len cap : Nat) (f : Nat → Int) (w : World) (h1 : 1 ≤ len) (h8 : len ≤ 8) (hcell : ∀ i, i < len → w.cell? ⟨b, off + i, none⟩ = some (.int .u8 (f i))) (hf : ∀ i, 0 ≤ f i ∧ f i < 256) :
    Calls Tryd.prog 68 #[.slice (some ⟨b, off, none⟩) len cap] w fun e w' => e = .returned (.tuple #[.int .u64 (num f len), .int .i64 0]) ∧ w' = w := by
  go_enter Tryd.func68, Tryd.ntmps68
  go_wp2
  go_loop [4, 5] (fun v i => ∃ k : Nat, k ≤ len ∧ i = .int .i64 k ∧ v = .int .u64 (num f k)) (fun _ i => len - (intOf i).toNat)
  case atStart => exact ⟨0, Nat.zero_le _, rfl, rfl⟩
  case round =>
    obtain ⟨k, hk, rfl, rfl⟩ := hrel
    by_cases hlt : k < len
    · have hc := hcell k hlt
      go_wp2
      go_round
      case rel =>
        have hb := num_bd8 f hf k (by omega)
        have hfk := hf k
        refine ⟨k + 1, by omega, by go_num, ?_⟩
        simp only [num, IntKind.wrap_u64]
        congr 1
        omega
      case measure => simp [intOf]; omega
    · go_wp2
      go_ret2
      obtain rfl : k = len := by omega
      exact ⟨rfl, rfl⟩
theorem refRotate_any (x n : Int) (w : World) (h0 : 0 ≤ x) (h1 : x < 4294967296) :
    Calls Tryd.prog 70 #[.int .u32 x, .int .i64 n] w fun e w' => e = .returned (.int .u32 (rot x (n % 32))) ∧ w' = w := by
  have t0 : -31 ≤ n.tmod 32 ∧ n.tmod 32 ≤ 31 := by rw [tmod_eq_if]; split <;> omega
  have hK : (n.tmod 32 + 32) % 32 = n % 32 := by rw [tmod_eq_if]; split <;> omega
  by_cases h : n % 32 = 0
  · rw [h, rot_zero x h0 h1]
    exact refRotate0 x n _ w rfl t0.1 t0.2 (by rw [hK, h])
  · have e := refrot x (n % 32).toNat (by omega) h0 h1
    rw [show ((n % 32).toNat : Int) = n % 32 by omega] at e
    rw [← e, show ((n % 32).toNat) = (n % 32).toNat from rfl, show 32 - (n % 32).toNat = (32 - n % 32).toNat by omega]
    exact refRotate1 x n _ (n % 32) w rfl t0.1 t0.2 hK (by omega) (by omega)
end Go.Proofs.YtpkbfljoakodoaaDoor.S2
namespace Go.Proofs.YtpkbfljoakodoaaDoor.S2
set_option maxRecDepth 20000
open Go.RowKit Num

/-- A word rotated by three numbers, laid over one another. -/
def rot3 (x i j k : Int) : Int := bits .xor .u32 (bits .xor .u32 (rot x i) (rot x j)) (rot x k)

/-- Eight numbers. -/
structure St where
  (a b c d e f g h : Int)
/-- .. as an array's cells. -/
def St.arr (s : St) : Array Value := #[.int .u32 s.a, .int .u32 s.b, .int .u32 s.c, .int .u32 s.d, .int .u32 s.e, .int .u32 s.f, .int .u32 s.g, .int .u32 s.h]

def chs (e f g : Int) : Int := bits .xor .u32 (bits .and .u32 e f) (bits .and .u32 (bits .xor .u32 IntKind.u32.max e) g)
def maj (a b c : Int) : Int := bits .xor .u32 (bits .xor .u32 (bits .and .u32 a b) (bits .and .u32 a c)) (bits .and .u32 b c)
/-- The eight numbers behind one round; kw: the sum of its constant and its word. -/
def rnd (s : St) (kw : Int) : St :=
  ⟨(s.h + rot3 s.e 6 11 25 + chs s.e s.f s.g + kw + (rot3 s.a 2 13 22 + maj s.a s.b s.c)) % 4294967296, s.a, s.b, s.c, (s.d + (s.h + rot3 s.e 6 11 25 + chs s.e s.f s.g + kw)) % 4294967296, s.e, s.f, s.g⟩

theorem Row.drewN {w : World} {g : Nat} {C : Array Value} {t : TypeId} (h : Row w g C t) (n : Nat) : Row (w.drewN n) g C t := h
theorem below_drewN {B : Nat} {a w : World} (h : Below B a w) (n : Nat) : Below B a (w.drewN n) := ⟨h.os, h.tape, h.output, h.size, h.block⟩
theorem St.arr_size (s : St) : s.arr.size = 8 := rfl
theorem St.arr_one (s : St) : s.arr.all (·.oneCell') = true := by simp [St.arr, Value.oneCell']

end Go.Proofs.YtpkbfljoakodoaaDoor.S2
namespace Go.Proofs.YtpkbfljoakodoaaDoor.S2
set_option maxRecDepth 20000
open Go.RowKit Num

/-- n words of 32 bits as cells. -/
def ar4 (f : Nat → Int) (n : Nat) : Array Value := ((List.range n).map fun i => Value.int .u32 (f i)).toArray

theorem ar4_at (f : Nat → Int) (n i : Nat) (h : i < n) : (ar4 f n)[i]? = some (.int .u32 (f i)) := by simp [ar4, h]
theorem ar4_size (f : Nat → Int) (n : Nat) : (ar4 f n).size = n := by simp [ar4]
theorem ar4_set (f g : Nat → Int) (n j : Nat) (v : Int) (h : ∀ i, i < n → g i = if i = j then v else f i) : (ar4 f n).setIfInBounds j (.int .u32 v) = ar4 g n := by
  apply Array.ext_getElem?
  intro i
  rw [Array.getElem?_setIfInBounds]
  by_cases hi : i < n
  · rw [ar4_at g n i hi, h i hi]
    by_cases e : j = i
    · subst e; rw [if_pos rfl, if_pos rfl, if_pos (by rw [ar4_size]; exact hi)]
    · rw [if_neg e, if_neg (fun e' => e e'.symm), ar4_at f n i hi]
  · have h1 : (ar4 g n)[i]? = none := by simp [ar4, Nat.not_lt.1 hi]
    have h2 : (ar4 f n)[i]? = none := by simp [ar4, Nat.not_lt.1 hi]
    rw [h1, h2]
    by_cases e : j = i
    · subst e; rw [if_pos rfl, if_neg (by rw [ar4_size]; exact hi)]
    · rw [if_neg e]
theorem ar4_congr (f g : Nat → Int) (n : Nat) (h : ∀ i, i < n → f i = g i) : ar4 f n = ar4 g n := by
  unfold ar4
  congr 1
  apply List.map_congr_left
  intro i hi
  rw [List.mem_range] at hi
  rw [h i hi]
theorem ar4_one (f : Nat → Int) (n : Nat) : (ar4 f n).all (·.oneCell') = true := by
  unfold ar4
  apply all_oneCell_toArray
  intro v hv
  simp at hv
  obtain ⟨i, _, rfl⟩ := hv
  rfl

/-- The chunk's own words. -/
def word (m : Nat → Int) (i : Nat) : Int := num (fun j => m (4 * i + j)) 4
def sig0 (x : Int) : Int := bits .xor .u32 (bits .xor .u32 (rot x 7) (rot x 18)) (x / 8)
def sig1 (x : Int) : Int := bits .xor .u32 (bits .xor .u32 (rot x 17) (rot x 19)) (x / 1024)
def nextW (l : Nat → Int) (i : Nat) : Int := (sig1 (l (i - 2)) + l (i - 7) + sig0 (l (i - 15)) + l (i - 16)) % 4294967296
def scl (m : Nat → Int) : Nat → List Int
  | 0 => []
  | n + 1 => scl m n ++ [if n < 16 then word m n else nextW (fun i => (scl m n).getD i 0) n]
/-- The word of round i. -/
def sc (m : Nat → Int) (i : Nat) : Int := (scl m (i + 1)).getD i 0

theorem scl_len (m : Nat → Int) (n : Nat) : (scl m n).length = n := by
  induction n with
  | zero => rfl
  | succ n ih => simp [scl, ih]
theorem scl_get (m : Nat → Int) (n i : Nat) (h : i < n) : (scl m n).getD i 0 = sc m i := by
  induction n with
  | zero => omega
  | succ n ih =>
    by_cases e : i = n
    · subst e; rfl
    · rw [← ih (by omega)]
      simp only [scl]
      rw [List.getD_eq_getElem?_getD, List.getElem?_append_left (by rw [scl_len]; omega), ← List.getD_eq_getElem?_getD]
theorem sc_eq (m : Nat → Int) (i : Nat) : sc m i = if i < 16 then word m i else nextW (fun j => (scl m i).getD j 0) i := by
  unfold sc
  simp only [scl]
  rw [List.getD_eq_getElem?_getD, List.getElem?_append_right (by rw [scl_len]; omega), scl_len]
  simp
theorem sc_low (m : Nat → Int) (i : Nat) (h : i < 16) : sc m i = word m i := by rw [sc_eq, if_pos h]
theorem sc_high (m : Nat → Int) (i : Nat) (h : 16 ≤ i) : sc m i = nextW (sc m) i := by
  rw [sc_eq, if_neg (by omega)]
  simp only [nextW]
  rw [scl_get m i _ (by omega), scl_get m i _ (by omega), scl_get m i _ (by omega), scl_get m i _ (by omega)]
theorem word_bd (m : Nat → Int) (hm : ∀ i, 0 ≤ m i ∧ m i < 256) (i : Nat) : 0 ≤ word m i ∧ word m i < 4294967296 := by
  have := num_bd (fun j => m (4 * i + j)) (fun j => hm _) 4
  unfold word
  omega
/-- The first k words, and zeros. -/
def uptoW (f : Nat → Int) (k : Nat) : Nat → Int := fun i => if i < k then f i else 0
theorem uptoW_next (f : Nat → Int) (n k : Nat) (v : Int) (h : f k = v) : (ar4 (uptoW f k) n).setIfInBounds k (.int .u32 v) = ar4 (uptoW f (k + 1)) n :=
  ar4_set _ _ _ _ _ (fun i _ => by
    unfold uptoW
    by_cases e : i = k
    · rw [if_pos e, if_pos (by omega), e, h]
    · rw [if_neg e]
      by_cases h : i < k
      · rw [if_pos h, if_pos (by omega)]
      · rw [if_neg h, if_neg (by omega)])

theorem info65 : (Tryd.prog.info? 108).map (·.size) = some 64 := by kernel_rfl
def zeros64 : Array Value := #[.int .u32 0, .int .u32 0, .int .u32 0, .int .u32 0, .int .u32 0, .int .u32 0, .int .u32 0, .int .u32 0, .int .u32 0, .int .u32 0, .int .u32 0, .int .u32 0, .int .u32 0, .int .u32 0, .int .u32 0, .int .u32 0, .int .u32 0, .int .u32 0, .int .u32 0, .int .u32 0, .int .u32 0, .int .u32 0, .int .u32 0, .int .u32 0, .int .u32 0, .int .u32 0, .int .u32 0, .int .u32 0, .int .u32 0, .int .u32 0, .int .u32 0, .int .u32 0, .int .u32 0, .int .u32 0, .int .u32 0, .int .u32 0, .int .u32 0, .int .u32 0, .int .u32 0, .int .u32 0, .int .u32 0, .int .u32 0, .int .u32 0, .int .u32 0, .int .u32 0, .int .u32 0, .int .u32 0, .int .u32 0, .int .u32 0, .int .u32 0, .int .u32 0, .int .u32 0, .int .u32 0, .int .u32 0, .int .u32 0, .int .u32 0, .int .u32 0, .int .u32 0, .int .u32 0, .int .u32 0, .int .u32 0, .int .u32 0, .int .u32 0, .int .u32 0]
theorem zeros64_ar4 (f : Nat → Int) : zeros64 = ar4 (uptoW f 0) 64 := by kernel_rfl

end Go.Proofs.YtpkbfljoakodoaaDoor.S2
namespace Go.Proofs.YtpkbfljoakodoaaDoor.S2
set_option maxRecDepth 20000
open Go.RowKit Num

/-- The constants of the rounds. -/
def kcs : List Int := [1116352408, 1899447441, 3049323471, 3921009573, 961987163, 1508970993, 2453635748, 2870763221, 3624381080, 310598401, 607225278, 1426881987, 1925078388, 2162078206, 2614888103, 3248222580, 3835390401, 4022224774, 264347078, 604807628, 770255983, 1249150122, 1555081692, 1996064986, 2554220882, 2821834349, 2952996808, 3210313671, 3336571891, 3584528711, 113926993, 338241895, 666307205, 773529912, 1294757372, 1396182291, 1695183700, 1986661051, 2177026350, 2456956037, 2730485921, 2820302411, 3259730800, 3345764771, 3516065817, 3600352804, 4094571909, 275423344, 430227734, 506948616, 659060556, 883997877, 958139571, 1322822218, 1537002063, 1747873779, 1955562222, 2024104815, 2227730452, 2361852424, 2428436474, 2756734187, 3204031479, 3329325298]
def kc (i : Nat) : Int := kcs.getD i 0
/-- The eight numbers behind k rounds. -/
def rnds (m : Nat → Int) (s : St) : Nat → St
  | 0 => s
  | k + 1 => rnd (rnds m s k) ((kc k + sc m k) % 4294967296)
def St.at (s : St) : Nat → Int
  | 0 => s.a | 1 => s.b | 2 => s.c | 3 => s.d | 4 => s.e | 5 => s.f | 6 => s.g | 7 => s.h | _ => 0
def St.of (g : Nat → Int) : St := ⟨g 0, g 1, g 2, g 3, g 4, g 5, g 6, g 7⟩
/-- The digest so far behind one further chunk. -/
def ovr (m : Nat → Int) (s : St) : St := St.of fun i => (s.at i + (rnds m s 64).at i) % 4294967296

theorem St.arr_at (s : St) : s.arr = ar4 s.at 8 := by cases s; kernel_rfl
theorem St.of_arr (g : Nat → Int) : (St.of g).arr = ar4 g 8 := by kernel_rfl
def zst : St := ⟨0, 0, 0, 0, 0, 0, 0, 0⟩

theorem Row.cells8 {w : World} {g : Nat} {s : St} {t : TypeId} (h : Row w g s.arr t) :
    w.cell? ⟨g, 0, none⟩ = some (.int .u32 s.a) ∧ w.cell? ⟨g, 1, none⟩ = some (.int .u32 s.b) ∧ w.cell? ⟨g, 2, none⟩ = some (.int .u32 s.c) ∧ w.cell? ⟨g, 3, none⟩ = some (.int .u32 s.d) ∧
    w.cell? ⟨g, 4, none⟩ = some (.int .u32 s.e) ∧ w.cell? ⟨g, 5, none⟩ = some (.int .u32 s.f) ∧ w.cell? ⟨g, 6, none⟩ = some (.int .u32 s.g) ∧ w.cell? ⟨g, 7, none⟩ = some (.int .u32 s.h) :=
  ⟨h.cell 0, h.cell 1, h.cell 2, h.cell 3, h.cell 4, h.cell 5, h.cell 6, h.cell 7⟩

/-- A whole array's cells are stored into a block. -/
theorem storeCells_row {w : World} {g : Nat} {old C : Array Value} {t : TypeId} (hg : Row w g old t) (ho : old.size = C.size) (h1 : C.all (·.oneCell') = true) :
    (storeCells ⟨g, 0, none⟩ C.toList).run Tryd.prog w = .ok () (w.setRow g C) := by
  have := run_storeCells_from (P := Tryd.prog) g t C.toList 0 old w hg (by simp; omega) (fun v hv => (Array.all_eq_true_iff_forall_mem.1 h1) v (by simpa using hv))
  simpa [ho] using this

/-- In the second loop: the first j numbers are added. -/
def added (s v : St) (j : Nat) : Nat → Int := fun i => if i < j then (s.at i + v.at i) % 4294967296 else s.at i
theorem added_next (s v : St) (j : Nat) : (ar4 (added s v j) 8).setIfInBounds j (.int .u32 ((s.at j + v.at j) % 4294967296)) = ar4 (added s v (j + 1)) 8 :=
  ar4_set _ _ _ _ _ (fun i _ => by
    unfold added
    by_cases e : i = j
    · rw [if_pos e, if_pos (by omega), e]
    · rw [if_neg e]
      by_cases h : i < j
      · rw [if_pos h, if_pos (by omega)]
      · rw [if_neg h, if_neg (by omega)])

end Go.Proofs.YtpkbfljoakodoaaDoor.S2
namespace Go.Proofs.YtpkbfljoakodoaaDoor.S2
set_option maxRecDepth 20000
open Go.RowKit Num

/-- n bytes laid over a row from the place o on. -/
def over (f q : Nat → Int) (o n : Nat) : Nat → Int := fun i => if o ≤ i ∧ i < o + n then q (i - o) else f i

theorem copy_arr (w : World) (g t N o n dl dc h ho cap : Nat) (f q : Nat → Int) (hg : Row w g (arr f N) t) (hn : n ≤ dl) (hN : o + n ≤ N) (hsrc : ∀ j, j < n → w.cell? ⟨h, ho + j, none⟩ = some (.int .u8 (q j))) :
    (Builtin.copy_ #[22, 22] 3 #[.slice (some ⟨g, o, none⟩) dl dc, .slice (some ⟨h, ho, none⟩) n cap]).run Tryd.prog w = .ok (goInt n) (w.setRow g (arr (over f q o n) N)) := by
  have e := run_copy_row (P := Tryd.prog) w 22 22 3 5 g o dl dc ⟨h, ho, none⟩ n cap (arr f N) t ((List.range n).map fun j => Value.int .u8 (q j)) Tryd.underlying22 info5s hg (by rw [List.length_map, List.length_range]; exact (Nat.min_eq_left hn).symm)
    (fun j v hj => by
      have hj' : j < n := by simpa using (List.getElem?_eq_some_iff.1 hj).1
      rw [Addr.add_mid, hsrc j hj']
      simpa [hj'] using hj)
    (by simpa [arr_size] using hN) (fun v hv => by
      simp at hv
      obtain ⟨i, _, rfl⟩ := hv
      rfl)
  rw [e]
  simp only [List.length_map, List.length_range]
  congr 2
  apply Array.ext_getElem?
  intro i
  simp only [List.getElem?_toArray]
  by_cases hi : i < N
  · rw [arr_at _ _ _ hi]
    by_cases h1 : i < o
    · rw [List.getElem?_append_left (by simp [arr_size]; omega), List.getElem?_append_left (by simp [arr_size]; omega), List.getElem?_take_of_lt h1]
      simp [arr, hi, over, show ¬ o ≤ i by omega]
    · by_cases h2 : i < o + n
      · rw [List.getElem?_append_left (by simp [arr_size]; omega), List.getElem?_append_right (by simp [arr_size]; omega)]
        have e1 : (List.take o (arr f N).toList).length = o := by simp [arr_size]; omega
        rw [e1]
        simp [over, show o ≤ i by omega, h2, show i - o < n by omega]
      · rw [List.getElem?_append_right (by simp [arr_size]; omega)]
        have e1 : (List.take o (arr f N).toList ++ (List.range n).map fun j => Value.int .u8 (q j)).length = o + n := by simp [arr_size]; omega
        rw [e1, List.getElem?_drop, show o + n + (i - (o + n)) = i by omega]
        simp [arr, hi, over, h2]
  · have e1 : (arr (over f q o n) N)[i]? = none := by simp [arr, Nat.not_lt.1 hi]
    rw [e1, List.getElem?_eq_none (by simp [arr_size]; omega)]

theorem sliceAt_l (t N : Nat) (hu : Tryd.prog.underlying t = some (.array N 5)) (g k : Nat) (hk : k < N) (l : Int) (hl : l = k) (w : World) :
    (Instr.sliceAt t (.pointer (some ⟨g, 0, none⟩)) (some (.int .i64 l)) none none).run Tryd.prog w = .ok (.slice (some ⟨g, k, none⟩) (N - k) (N - k)) w := by
  subst hl
  obtain ⟨i0, hi, _, hz1, _⟩ := info_parts Tryd.info5
  simp [Instr.sliceAt, Instr.sureAddr, run_underlying hu, Instr.sliceBounds, run_sliceBound, sizeOf, typeInfo, hi, hz1, Addr.add_mid, show k ≤ N by omega, show ¬ N = k by omega]
theorem sliceAt_lh (t N : Nat) (hu : Tryd.prog.underlying t = some (.array N 5)) (g k n : Nat) (hk : k < N) (hn : k + n ≤ N) (l h : Int) (hl : l = k) (hh : h = k + n) (w : World) :
    (Instr.sliceAt t (.pointer (some ⟨g, 0, none⟩)) (some (.int .i64 l)) (some (.int .i64 h)) none).run Tryd.prog w = .ok (.slice (some ⟨g, k, none⟩) n (N - k)) w := by
  subst hl
  obtain rfl : h = ((k + n : Nat) : Int) := by omega
  obtain ⟨i0, hi, _, hz1, _⟩ := info_parts Tryd.info5
  have e : ((k : Int) + (n : Int)).toNat = k + n := by omega
  have h0 : (0 : Int) ≤ (k : Int) + (n : Int) := by omega
  have h1 : (k : Int) + (n : Int) ≤ (N : Int) := by omega
  have h2 : (k : Int) ≤ (k : Int) + (n : Int) := by omega
  simp [Instr.sliceAt, Instr.sureAddr, run_underlying hu, Instr.sliceBounds, run_sliceBound, sizeOf, typeInfo, hi, hz1, Addr.add_mid, show ¬ N = k by omega, e, h0, h1, h2]

/-- The i-th byte of eight numbers, the highest of each first. -/
def byteOf (s : St) (i : Nat) : Int := s.at (i / 4) / 2 ^ (8 * (3 - i % 4)) % 256
def dgs (s : St) (k : Nat) : Nat → Int := fun i => if i < 4 * k then byteOf s i else 0
/-- The digest of eight numbers. -/
def dig (s : St) : Nat → Int := fun i => if i < 32 then byteOf s i else 0

theorem dgs_next (s : St) (k : Nat) : over (dgs s k) (fun j => s.at k / 2 ^ (8 * (4 - 1 - j)) % 256) (k * 4) 4 = dgs s (k + 1) := by
  funext i
  unfold over dgs
  by_cases h1 : i < 4 * k
  · rw [if_neg (by omega), if_pos h1, if_pos (by omega)]
  · by_cases h2 : i < 4 * (k + 1)
    · rw [if_pos (by omega), if_pos h2]
      unfold byteOf
      rw [show i / 4 = k by omega, show 3 - i % 4 = 4 - 1 - (i - k * 4) by omega]
    · rw [if_neg (by omega), if_neg h1, if_neg h2]

end Go.Proofs.YtpkbfljoakodoaaDoor.S2
namespace Go.Proofs.YtpkbfljoakodoaaDoor.S2
set_option maxRecDepth 20000
open Go.RowKit Num

/-- The eight numbers at first. -/
def st0 : St := ⟨1779033703, 3144134277, 1013904242, 2773480762, 1359893119, 2600822924, 528734635, 1541459225⟩
/-- The message that is filled up to T bytes. -/
def msg (f : Nat → Int) (len T : Nat) : Nat → Int := fun i =>
  if i < len then f i else if i = len then 128 else if i < T - 8 then 0 else if i < T then (8 * (len : Int)) / 2 ^ (8 * (T - 1 - i)) % 256 else 0
/-- The digest so far behind j chunks. -/
def hs (f : Nat → Int) (len T : Nat) : Nat → St
  | 0 => st0
  | j + 1 => ovr (fun i => msg f len T (64 * j + i)) (hs f len T j)

theorem msg_bd (f : Nat → Int) (len T : Nat) (hf : ∀ i, 0 ≤ f i ∧ f i < 256) (i : Nat) : 0 ≤ msg f len T i ∧ msg f len T i < 256 := by
  unfold msg
  have := hf i
  split
  · omega
  · split
    · omega
    · split
      · omega
      · split
        · omega
        · omega

theorem scl_congr (m m' : Nat → Int) (h : ∀ i, i < 64 → m i = m' i) (n : Nat) : scl m n = scl m' n := by
  induction n with
  | zero => rfl
  | succ n ih =>
    simp only [scl, ih]
    congr 2
    split
    · rename_i hn
      unfold word
      simp only [num]
      rw [h _ (by omega), h _ (by omega), h _ (by omega), h _ (by omega)]
    · rfl
theorem sc_congr (m m' : Nat → Int) (h : ∀ i, i < 64 → m i = m' i) (i : Nat) : sc m i = sc m' i := by unfold sc; rw [scl_congr m m' h]
theorem rnds_congr (m m' : Nat → Int) (h : ∀ i, i < 64 → m i = m' i) (s : St) (k : Nat) : rnds m s k = rnds m' s k := by
  induction k with
  | zero => rfl
  | succ k ih => simp only [rnds]; rw [ih, sc_congr m m' h]
theorem ovr_congr (m m' : Nat → Int) (h : ∀ i, i < 64 → m i = m' i) (s : St) : ovr m s = ovr m' s := by unfold ovr; rw [rnds_congr m m' h]

theorem ovr_bd (m : Nat → Int) (s : St) (i : Nat) : 0 ≤ (ovr m s).at i ∧ (ovr m s).at i < 4294967296 := by
  have h : ∀ g : Nat → Int, (∀ j, 0 ≤ g j ∧ g j < 4294967296) → 0 ≤ (St.of g).at i ∧ (St.of g).at i < 4294967296 := fun g hg => by
    match i with
    | 0 => exact hg 0
    | 1 => exact hg 1
    | 2 => exact hg 2
    | 3 => exact hg 3
    | 4 => exact hg 4
    | 5 => exact hg 5
    | 6 => exact hg 6
    | 7 => exact hg 7
    | n + 8 => exact ⟨Int.le_refl 0, show (0 : Int) < 4294967296 by decide⟩
  exact h _ (fun j => ⟨Int.emod_nonneg _ (by decide), Int.emod_lt_of_pos _ (by decide)⟩)

/-- The bytes of a number of eight bytes. -/
def len8 (len : Nat) : Nat → Int := fun j => (8 * (len : Int)) / 2 ^ (8 * (8 - 1 - j)) % 256
/-- The last chunks, as the program lays them out: what is left over, the byte 128, zeros, the number of bits. -/
def tail1 (f : Nat → Int) (W n : Nat) : Nat → Int := over (fun _ => 0) (fun j => f (W + j)) 0 n
def tail2 (f : Nat → Int) (W n : Nat) : Nat → Int := fun i => if i = n then 128 else tail1 f W n i
def tail3 (f : Nat → Int) (W n E len : Nat) : Nat → Int := over (tail2 f W n) (len8 len) (E - 8) 8

theorem tail_msg (f : Nat → Int) (W n E len : Nat) (hlen : len = W + n) (hE : n + 9 ≤ E) (i : Nat) (hi : i < E) : tail3 f W n E len i = msg f len (W + E) (W + i) := by
  unfold tail3 msg over tail2 tail1 over len8
  by_cases h1 : E - 8 ≤ i
  · rw [if_pos (by omega), if_neg (by omega), if_neg (by omega), if_neg (by omega), if_pos (by omega), show 8 - 1 - (i - (E - 8)) = W + E - 1 - (W + i) by omega]
  · rw [if_neg (by omega)]
    by_cases h2 : i = n
    · rw [if_pos h2, if_neg (by omega), if_pos (by omega)]
    · rw [if_neg h2]
      by_cases h3 : i < n
      · rw [if_pos (by omega), if_pos (by omega)]
        rfl
      · rw [if_neg (by omega), if_neg (by omega), if_neg (by omega), if_pos (by omega)]
end Go.Proofs.YtpkbfljoakodoaaDoor.S2
