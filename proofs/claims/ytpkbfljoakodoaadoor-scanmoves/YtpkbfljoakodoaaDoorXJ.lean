/- The walk of the document's own block. The walk of the document's own block: one further chunk. The walk of the document's own Sum. -/
import Derived.Test.YtpkbfljoakodoaaDoorS2Sum
import Derived.StillTail
import Derived.Laws.AppendOwnNone
namespace Go.Proofs.YtpkbfljoakodoaaDoor.S2
set_option maxRecDepth 20000
open Go.RowKit Num

section
variable {P : Program} {ops : Array Oper} {w : World} {Q : Act → Prop} {a : Act} {o : Oper} {rest : List Oper}
theorem s_value (v : Value) (hw : Region.wanted o (yielded ops a.tmps) = true) (h : (execOp a.eval o).run P w = .ok (.value v) w) (k : wpStill P ops w Q rest (a.put o.dst v)) : wpStill P ops w Q (o :: rest) a :=
  wpStill_step fun K hK => by rw [if_pos hw]; unfold Oper.still; rw [h]; exact ⟨rfl, hK _ k⟩
theorem s_move (x : Operand) (ho : o.op = .move x) (hw : Region.wanted o (yielded ops a.tmps) = true) (k : wpStill P ops w Q rest (a.put o.dst (a.eval x))) : wpStill P ops w Q (o :: rest) a :=
  s_value _ hw (BigFrame.run_move x ho w) k
theorem s_assign (x : Operand) (ho : o.op = .assign x) (hw : Region.wanted o (yielded ops a.tmps) = true) (k : wpStill P ops w Q rest (a.put o.dst (a.eval x))) : wpStill P ops w Q (o :: rest) a :=
  s_value _ hw (BigFrame.run_assign x ho w) k
theorem s_call (v : Value) (hw : Region.wanted o (yielded ops a.tmps) = true) (f : FuncId) (args : Array Value) (h : (execOp a.eval o).run P w = .ok (.enter f args) w) (hc : Calls P f args w fun e w'' => e = .returned v ∧ w'' = w)
    (k : wpStill P ops w Q rest (a.put o.dst v)) : wpStill P ops w Q (o :: rest) a :=
  wpStill_step fun K hK => by rw [if_pos hw]; unfold Oper.still; rw [h]; exact ⟨rfl, v, hc, hK _ k⟩
end

/-- All eight numbers have 32 bits. -/
def St.ok (s : St) : Prop := ∀ i, 0 ≤ s.at i ∧ s.at i < 4294967296

theorem bits_bd (op : BinOp) (x y : Int) : 0 ≤ bits op .u32 x y ∧ bits op .u32 x y < 4294967296 := by
  have h := bits_within op .u32 x y
  simp only [IntKind.min, IntKind.max, IntKind.signed, IntKind.bits] at h
  simp at h
  omega
theorem mod_bd (x : Int) : 0 ≤ x % 4294967296 ∧ x % 4294967296 < 4294967296 := ⟨Int.emod_nonneg _ (by decide), Int.emod_lt_of_pos _ (by decide)⟩
theorem sc_bd (m : Nat → Int) (hm : ∀ i, 0 ≤ m i ∧ m i < 256) (i : Nat) : 0 ≤ sc m i ∧ sc m i < 4294967296 := by
  by_cases h : i < 16
  · rw [sc_low m i h]; exact word_bd m hm i
  · rw [sc_high m i (by omega)]; exact mod_bd _
theorem rnd_ok (s : St) (kw : Int) (h : s.ok) : (rnd s kw).ok := by
  intro i
  match i with
  | 0 => exact mod_bd _
  | 1 => exact h 0
  | 2 => exact h 1
  | 3 => exact h 2
  | 4 => exact mod_bd _
  | 5 => exact h 4
  | 6 => exact h 5
  | 7 => exact h 6
  | n + 8 => exact ⟨Int.le_refl 0, show (0 : Int) < 4294967296 by decide⟩
theorem rnds_ok (m : Nat → Int) (s : St) (h : s.ok) (k : Nat) : (rnds m s k).ok := by
  induction k with
  | zero => exact h
  | succ k ih => exact rnd_ok _ _ ih
theorem st0_ok : st0.ok := by
  intro i
  match i with
  | 0 => decide
  | 1 => decide
  | 2 => decide
  | 3 => decide
  | 4 => decide
  | 5 => decide
  | 6 => decide
  | 7 => decide
  | n + 8 => exact ⟨Int.le_refl 0, show (0 : Int) < 4294967296 by decide⟩
theorem hs_ok (f : Nat → Int) (len T j : Nat) : (hs f len T j).ok := by
  cases j with
  | zero => exact st0_ok
  | succ j => exact ovr_bd _ _

theorem constants_any (w : World) : Calls Tryd.prog 54 #[] w fun e w' => e = .returned (.slice (some ⟨w.heap.size, 0, none⟩) 64 64) ∧ w' = w.alloc (.cells (ar4 kc 64) 88) := by
  have e : ar4 kc 64 = #[.int .u32 1116352408, .int .u32 1899447441, .int .u32 3049323471, .int .u32 3921009573, .int .u32 961987163, .int .u32 1508970993, .int .u32 2453635748, .int .u32 2870763221, .int .u32 3624381080, .int .u32 310598401, .int .u32 607225278, .int .u32 1426881987, .int .u32 1925078388, .int .u32 2162078206, .int .u32 2614888103, .int .u32 3248222580, .int .u32 3835390401, .int .u32 4022224774, .int .u32 264347078, .int .u32 604807628, .int .u32 770255983, .int .u32 1249150122, .int .u32 1555081692, .int .u32 1996064986, .int .u32 2554220882, .int .u32 2821834349, .int .u32 2952996808, .int .u32 3210313671, .int .u32 3336571891, .int .u32 3584528711, .int .u32 113926993, .int .u32 338241895, .int .u32 666307205, .int .u32 773529912, .int .u32 1294757372, .int .u32 1396182291, .int .u32 1695183700, .int .u32 1986661051, .int .u32 2177026350, .int .u32 2456956037, .int .u32 2730485921, .int .u32 2820302411, .int .u32 3259730800, .int .u32 3345764771, .int .u32 3516065817, .int .u32 3600352804, .int .u32 4094571909, .int .u32 275423344, .int .u32 430227734, .int .u32 506948616, .int .u32 659060556, .int .u32 883997877, .int .u32 958139571, .int .u32 1322822218, .int .u32 1537002063, .int .u32 1747873779, .int .u32 1955562222, .int .u32 2024104815, .int .u32 2227730452, .int .u32 2361852424, .int .u32 2428436474, .int .u32 2756734187, .int .u32 3204031479, .int .u32 3329325298] := by kernel_rfl
  rw [e]
  clear e
  go_enter Tryd.func54, Tryd.ntmps54
  go_wp2
  go_ret
  exact ⟨rfl, rfl⟩

theorem refRot_lit (x n : Int) (w : World) (h0 : 0 ≤ n) (h1 : n ≤ 31) (hx : 0 ≤ x ∧ x < 4294967296) : Calls Tryd.prog 70 #[.int .u32 x, .int .i64 n] w fun e w' => e = .returned (.int .u32 (rot x n)) ∧ w' = w := by
  have h := refRotate_any x n w hx.1 hx.2
  rw [Int.emod_eq_of_lt h0 (by omega)] at h
  exact h

set_option maxHeartbeats 400000 in
theorem rot_any (x i j : Int) (w : World) (hi0 : 0 ≤ i) (hi : i ≤ 31) (hj0 : 0 ≤ j) (hj : j ≤ 31) (hx : 0 ≤ x ∧ x < 4294967296) :
    Calls Tryd.prog 69 #[.int .u32 x, .int .i64 i, .int .i64 j] w fun e w' => e = .returned (.int .u32 (bits .xor .u32 (rot x i) (rot x j))) ∧ w' = w := by
  go_enter Tryd.func69, Tryd.ntmps69
  go_wp2_with fail
  refine (refRot_lit x i w hi0 hi hx).mono ?_
  rintro e w1 ⟨rfl, rfl⟩
  go_wp2_with fail
  refine (refRot_lit x j _ hj0 hj hx).mono ?_
  rintro e w2 ⟨rfl, rfl⟩
  go_wp2
  go_ret
  exact ⟨rfl, rfl⟩
end Go.Proofs.YtpkbfljoakodoaaDoor.S2
namespace Go.Proofs.YtpkbfljoakodoaaDoor.S2
set_option maxRecDepth 20000
open Go.RowKit Num

theorem results22 : Tryd.f56.results = #[.cell 6 89] := by kernel_rfl
theorem St.arr_info45 (s : St) : (Tryd.prog.info? 89).map (·.size) = some s.arr.size := info45

/-- A round's numbers, as the document's text comes to them. -/
theorem rnd_arr (v : St) (x y : Int) : (rnd v ((x + y) % 4294967296)).arr = #[.int .u32 ((v.h + bits .xor .u32 (bits .xor .u32 (rot v.e 6) (rot v.e 11)) (rot v.e 25) + bits .xor .u32 (bits .and .u32 v.e v.f) (bits .and .u32 (bits .xor .u32 IntKind.u32.max v.e) v.g) + x + y + (bits .xor .u32 (bits .xor .u32 (rot v.a 2) (rot v.a 13)) (rot v.a 22) + bits .xor .u32 (bits .xor .u32 (bits .and .u32 v.a v.b) (bits .and .u32 v.a v.c)) (bits .and .u32 v.b v.c))) % 4294967296), .int .u32 v.a, .int .u32 v.b, .int .u32 v.c, .int .u32 ((v.d + (v.h + bits .xor .u32 (bits .xor .u32 (rot v.e 6) (rot v.e 11)) (rot v.e 25) + bits .xor .u32 (bits .and .u32 v.e v.f) (bits .and .u32 (bits .xor .u32 IntKind.u32.max v.e) v.g) + x + y)) % 4294967296), .int .u32 v.e, .int .u32 v.f, .int .u32 v.g] := by
  simp only [St.arr, rnd, rot3, chs, maj]
  have e1 : ∀ h X C Y : Int, (h + X + C + (x + y) % 4294967296 + Y) % 4294967296 = (h + X + C + x + y + Y) % 4294967296 := fun h X C Y => by omega
  have e2 : ∀ d h X C : Int, (d + (h + X + C + (x + y) % 4294967296)) % 4294967296 = (d + (h + X + C + x + y)) % 4294967296 := fun d h X C => by omega
  rw [e1, e2]

/-- What the loop of the rounds keeps. -/
structure Br (w0 : World) (SA : Array Value) (gk : Nat) (m : Nat → Int) (v : St) (wr : World) : Prop where
  h : Row wr w0.heap.size SA 89
  r : Row wr (w0.heap.size + 1) zst.arr 89
  w : Row wr (w0.heap.size + 1 + 1) (ar4 (sc m) 64) 108
  x : Row wr (w0.heap.size + 1 + 1 + 1) v.arr 89
  k : Row wr gk (ar4 kc 64) 88
  kn : gk < w0.heap.size
  old : Below w0.heap.size w0 wr
theorem Br.drew {w0 wr : World} {SA : Array Value} {gk : Nat} {m : Nat → Int} {v : St} (hB : Br w0 SA gk m v wr) : Br w0 SA gk m v wr.drew := ⟨hB.h, hB.r, hB.w, hB.x, hB.k, hB.kn, hB.old.drew⟩
theorem Br.next {w0 wr : World} {SA : Array Value} {gk : Nat} {m : Nat → Int} {v v' : St} (hB : Br w0 SA gk m v wr) : Br w0 SA gk m v' (wr.setRow (w0.heap.size + 1 + 1 + 1) v'.arr) := by
  have := hB.kn
  exact ⟨hB.h.other (by omega), hB.r.other (by omega), hB.w.other (by omega), hB.x.setRow, hB.k.other (by omega), hB.kn, below_setRow hB.old (by omega) _⟩

/-- What the loops of the words keep. -/
structure Bl (w0 : World) (SA : Array Value) (m : Nat → Int) (k : Nat) (wr : World) : Prop where
  h : Row wr w0.heap.size SA 89
  r : Row wr (w0.heap.size + 1) zst.arr 89
  w : Row wr (w0.heap.size + 1 + 1) (ar4 (uptoW (sc m) k) 64) 108
  old : Below w0.heap.size w0 wr
  n : wr.heap.size = w0.heap.size + 1 + 1 + 1
theorem Bl.next {w0 wr : World} {SA : Array Value} {m : Nat → Int} {k : Nat} (hB : Bl w0 SA m k wr) (v : Int) (hv : sc m k = v) : Bl w0 SA m (k + 1) (wr.setCell ⟨w0.heap.size + 1 + 1, k, none⟩ (.int .u32 v)) := by
  refine ⟨hB.h.setCell_other (by omega) _, hB.r.setCell_other (by omega) _, ?_, hB.old.setCell (by simp; omega) _, by simpa using hB.n⟩
  have h := hB.w.setCell (i := k) (.int .u32 v)
  rw [uptoW_next _ _ _ _ hv] at h
  exact h
theorem Bl.drew {w0 wr : World} {SA : Array Value} {m : Nat → Int} {k : Nat} (hB : Bl w0 SA m k wr) : Bl w0 SA m k wr.drew := ⟨hB.h, hB.r, hB.w, hB.old.drew, hB.n⟩

set_option maxHeartbeats 2000000 in
set_option maxRecDepth 20000 in
theorem block_any (s : St) (hok : s.ok) (b off cap gk : Nat) (m : Nat → Int) (w : World) (hK : Row w gk (ar4 kc 64) 88) (hcap : 64 ≤ cap) (hcap' : cap ≤ 9223372036854775807) (hcell : ∀ i, i < 64 → w.cell? ⟨b, off + i, none⟩ = some (.int .u8 (m i))) (hm : ∀ i, 0 ≤ m i ∧ m i < 256) :
    Calls Tryd.prog 56 #[.agg s.arr, .slice (some ⟨b, off, none⟩) 64 cap, .slice (some ⟨gk, 0, none⟩) 64 64] w fun e w' => e = .returned (.agg (ovr m s).arr) ∧ Below w.heap.size w w' := by
  obtain ⟨SA, hSA⟩ : ∃ SA, SA = s.arr := ⟨_, rfl⟩
  have hS8 := s.arr_info45
  have hSs : SA.size = 8 := by rw [hSA]; rfl
  have hSo : SA.all (·.oneCell') = true := by rw [hSA]; exact s.arr_one
  rw [← hSA] at hS8 ⊢
  have HSA : Hid _ := hSA
  clear hSA
  obtain ⟨Z, hZ⟩ : ∃ Z, Z = zeros64 := ⟨_, rfl⟩
  have hZa : Z = ar4 (uptoW (sc m) 0) 64 := by rw [hZ]; exact zeros64_ar4 _
  unfold zeros64 at hZ
  have hB0 : Bl w SA m 0 (((w.alloc (.cells SA 89)).alloc (.cells zst.arr 89)).alloc (.cells Z 108)) := by
    refine ⟨((Row.new w SA 89).alloc _).alloc _, ?_, ?_, (((Below.refl _ _).alloc (Nat.le_refl _) _).alloc (by simp) _).alloc (by simp; omega) _, by simp⟩
    · have h := Row.new (w.alloc (.cells SA 89)) zst.arr 89
      rw [World.size_alloc] at h
      exact h.alloc _
    · have h := Row.new ((w.alloc (.cells SA 89)).alloc (.cells zst.arr 89)) Z 108
      rw [World.size_alloc, World.size_alloc] at h
      rw [← hZa]
      exact h
  have HC : Hid _ := hcell
  have HK : Hid (Row w gk (ar4 kc 64) 88) := hK
  clear hcell hK hZa
  go_enter Tryd.func56, Tryd.ntmps56
  go_wp2
  rw [← hZ]
  clear hZ
  rw [show (#[Value.int IntKind.u32 0, Value.int IntKind.u32 0, Value.int IntKind.u32 0, Value.int IntKind.u32 0, Value.int IntKind.u32 0, Value.int IntKind.u32 0, Value.int IntKind.u32 0, Value.int IntKind.u32 0] : Array Value) = zst.arr from rfl]
  generalize ((w.alloc (.cells SA 89)).alloc (.cells zst.arr 89)).alloc (.cells Z 108) = W0 at *
  go_loopw [8] (fun i wr => ∃ k : Nat, k ≤ 16 ∧ i = .int .i64 k ∧ Bl w SA m k wr) (fun i _ => 16 - (intOf i).toNat)
  case atStart => exact ⟨0, Nat.zero_le _, rfl, hB0⟩
  case round =>
    clear hB0
    obtain ⟨k, hk, rfl, hB⟩ := hrel
    by_cases hlt : k < 16
    · have hnc : ¬ cap = 4 * k := by omega
      have hnb : ∀ i, i < 4 → wr.cell? ⟨b, off + 4 * k + i, none⟩ = some (.int .u8 (m (4 * k + i))) := fun i hi => by
        have h := HC.out (4 * k + i) (by omega)
        rw [show off + 4 * k + i = off + (4 * k + i) by omega, hB.old.cell (p := ⟨b, off + (4 * k + i), none⟩) (World.block_lt_of_cell? _ _ h), h]
      have HN := refNumber_any b (off + 4 * k) 4 (cap - 4 * k) (fun j => m (4 * k + j)) wr (by decide) (by decide) hnb (fun i => hm _)
      have hwb := word_bd m hm k
      have HV : Hid (num (fun j => m (4 * k + j)) 4 = word m k) := rfl
      rw [HV.out] at HN
      generalize hV : word m k = V at *
      have hc := hB.w.cell k
      rw [ar4_at _ _ _ (by omega)] at hc
      have hz := hB.w.frozen k
      clear hnb HV
      go_wp2_with fail
      refine HN.mono ?_
      rintro e w1 ⟨rfl, hw1⟩
      subst hw1
      clear HN
      have hVV : V % 4294967296 = V := Int.emod_eq_of_lt hwb.1 hwb.2
      go_wp2
      go_roundw
      case rel => exact ⟨k + 1, by omega, by go_num, hB.next V ((sc_low m k hlt).trans hV)⟩
      case measure => simp [intOf]; omega
    · obtain rfl : k = 16 := by omega
      go_wp2
      go_loopw [11] (fun i wx => ∃ k : Nat, 16 ≤ k ∧ k ≤ 64 ∧ i = .int .i64 k ∧ Bl w SA m k wx) (fun i _ => 64 - (intOf i).toNat)
      case atStart => exact ⟨16, Nat.le_refl _, by decide, rfl, hB⟩
      case round =>
        clear hB
        obtain ⟨k, hk16, hk, rfl, hB⟩ := hrel
        by_cases hlt : k < 64
        · obtain ⟨i2, h2⟩ : ∃ i2, i2 = k - 2 := ⟨_, rfl⟩
          obtain ⟨i7, h7⟩ : ∃ i7, i7 = k - 7 := ⟨_, rfl⟩
          obtain ⟨i15, h15⟩ : ∃ i15, i15 = k - 15 := ⟨_, rfl⟩
          obtain ⟨i16, h16⟩ : ∃ i16, i16 = k - 16 := ⟨_, rfl⟩
          have c15 := hB.w.cell i15
          have c2 := hB.w.cell i2
          have c7 := hB.w.cell i7
          have c16 := hB.w.cell i16
          rw [ar4_at _ _ _ (by omega), uptoW, if_pos (by omega)] at c15 c2 c7 c16
          have hc := hB.w.cell k
          rw [ar4_at _ _ _ (by omega)] at hc
          have hz := hB.w.frozen k
          have b2 := sc_bd m hm i2
          have b15 := sc_bd m hm i15
          have x2 : IntKind.i64.wrap ((k : Int) - 2) = (i2 : Int) := by rw [IntKind.wrap_i64]; omega
          have x7 : IntKind.i64.wrap ((k : Int) - 7) = (i7 : Int) := by rw [IntKind.wrap_i64]; omega
          have x15 : IntKind.i64.wrap ((k : Int) - 15) = (i15 : Int) := by rw [IntKind.wrap_i64]; omega
          have x16 : IntKind.i64.wrap ((k : Int) - 16) = (i16 : Int) := by rw [IntKind.wrap_i64]; omega
          have l2 : (i2 : Int) < 64 := by omega
          have l7 : (i7 : Int) < 64 := by omega
          have l15 : (i15 : Int) < 64 := by omega
          have l16 : (i16 : Int) < 64 := by omega
          have lk : (k : Int) < 64 := by omega
          have HI : Hid (i2 = k - 2 ∧ i7 = k - 7 ∧ i15 = k - 15 ∧ i16 = k - 16) := ⟨h2, h7, h15, h16⟩
          have n2 : i2 ≠ k := by omega
          have n7 : i7 ≠ k := by omega
          have n15 : i15 ≠ k := by omega
          have n16 : i16 ≠ k := by omega
          have HBB : Hid _ := hB
          have B2 : Hid _ := b2
          have B15 : Hid _ := b15
          have HM : Hid _ := hm
          have HR : Hid (16 ≤ k ∧ k < 64) := ⟨hk16, hlt⟩
          have HO : Hid _ := hok
          have HS8 : Hid _ := hS8
          have HSs : Hid _ := hSs
          have HSo : Hid _ := hSo
          clear h2 h7 h15 h16 hB b2 b15 hm hok hcap hcap' hS8 hSs hSo hk16 hk hlt
          go_wp2
          refine wp_region_still_tail 35 (by kernel_rfl) (by kernel_rfl) ?_
          simp only [List.take_succ_cons, List.take_zero, List.drop_succ_cons, List.drop_zero]
          have d2 : ({ wr with drawn := wr.drawn + 1 } : World).cell? ⟨w.heap.size + 1 + 1, i2, none⟩ = some (.int .u32 (sc m i2)) := c2
          have d7 : ({ wr with drawn := wr.drawn + 1 } : World).cell? ⟨w.heap.size + 1 + 1, i7, none⟩ = some (.int .u32 (sc m i7)) := c7
          have d15 : ({ wr with drawn := wr.drawn + 1 } : World).cell? ⟨w.heap.size + 1 + 1, i15, none⟩ = some (.int .u32 (sc m i15)) := c15
          have d16 : ({ wr with drawn := wr.drawn + 1 } : World).cell? ⟨w.heap.size + 1 + 1, i16, none⟩ = some (.int .u32 (sc m i16)) := c16
          have dk : ({ wr with drawn := wr.drawn + 1 } : World).cell? ⟨w.heap.size + 1 + 1, k, none⟩ = some (.int .u32 (uptoW (sc m) k k)) := hc
          have dz : ({ wr with drawn := wr.drawn + 1 } : World).frozen? ⟨w.heap.size + 1 + 1, k, none⟩ = false := hz
          have HB1 : Hid (Bl w SA m k { wr with drawn := wr.drawn + 1 }) := HBB.out.drew
          clear c2 c7 c15 c16 hc hz HBB
          generalize ({ wr with drawn := wr.drawn + 1 } : World) = wd at *
          refine s_move _ rfl (by rfl) ?_
          simp only [Act.put, List.setIfInBounds_toArray, List.set_cons_zero, List.set_cons_succ]
          refine s_move _ rfl (by rfl) ?_
          simp only [Act.put, List.setIfInBounds_toArray, List.set_cons_zero, List.set_cons_succ]
          refine s_value ?_ (by rfl) ?_ ?_
          rotate_left
          · go_simp
            with_reducible rfl
          simp only [Act.put, List.setIfInBounds_toArray, List.set_cons_zero, List.set_cons_succ]
          refine s_value ?_ (by rfl) ?_ ?_
          rotate_left
          · go_simp
            with_reducible rfl
          simp only [Act.put, List.setIfInBounds_toArray, List.set_cons_zero, List.set_cons_succ]
          refine s_value ?_ (by rfl) ?_ ?_
          rotate_left
          · go_simp
            with_reducible rfl
          simp only [Act.put, List.setIfInBounds_toArray, List.set_cons_zero, List.set_cons_succ]
          refine s_call (.int .u32 (bits .xor .u32 (rot (sc m i2) 17) (rot (sc m i2) 19))) (by rfl) 69 #[.int .u32 (sc m i2), .int .i64 17, .int .i64 19] (by go_simp) (rot_any (sc m i2) 17 19 _ (by decide) (by decide) (by decide) (by decide) B2.out) ?_
          simp only [Act.put, List.setIfInBounds_toArray, List.set_cons_zero, List.set_cons_succ]
          refine s_move _ rfl (by rfl) ?_
          simp only [Act.put, List.setIfInBounds_toArray, List.set_cons_zero, List.set_cons_succ]
          refine s_value ?_ (by rfl) ?_ ?_
          rotate_left
          · go_simp
            with_reducible rfl
          simp only [Act.put, List.setIfInBounds_toArray, List.set_cons_zero, List.set_cons_succ]
          refine s_value ?_ (by rfl) ?_ ?_
          rotate_left
          · go_simp
            with_reducible rfl
          simp only [Act.put, List.setIfInBounds_toArray, List.set_cons_zero, List.set_cons_succ]
          refine s_value ?_ (by rfl) ?_ ?_
          rotate_left
          · go_simp
            with_reducible rfl
          simp only [Act.put, List.setIfInBounds_toArray, List.set_cons_zero, List.set_cons_succ]
          refine s_value ?_ (by rfl) ?_ ?_
          rotate_left
          · go_simp
            with_reducible rfl
          simp only [Act.put, List.setIfInBounds_toArray, List.set_cons_zero, List.set_cons_succ]
          refine s_value ?_ (by rfl) ?_ ?_
          rotate_left
          · go_simp
            with_reducible rfl
          simp only [Act.put, List.setIfInBounds_toArray, List.set_cons_zero, List.set_cons_succ]
          refine s_move _ rfl (by rfl) ?_
          simp only [Act.put, List.setIfInBounds_toArray, List.set_cons_zero, List.set_cons_succ]
          refine s_value ?_ (by rfl) ?_ ?_
          rotate_left
          · go_simp
            with_reducible rfl
          simp only [Act.put, List.setIfInBounds_toArray, List.set_cons_zero, List.set_cons_succ]
          refine s_value ?_ (by rfl) ?_ ?_
          rotate_left
          · go_simp
            with_reducible rfl
          simp only [Act.put, List.setIfInBounds_toArray, List.set_cons_zero, List.set_cons_succ]
          refine s_value ?_ (by rfl) ?_ ?_
          rotate_left
          · go_simp
            with_reducible rfl
          simp only [Act.put, List.setIfInBounds_toArray, List.set_cons_zero, List.set_cons_succ]
          refine s_value ?_ (by rfl) ?_ ?_
          rotate_left
          · go_simp
            with_reducible rfl
          simp only [Act.put, List.setIfInBounds_toArray, List.set_cons_zero, List.set_cons_succ]
          refine s_move _ rfl (by rfl) ?_
          simp only [Act.put, List.setIfInBounds_toArray, List.set_cons_zero, List.set_cons_succ]
          refine s_value ?_ (by rfl) ?_ ?_
          rotate_left
          · go_simp
            with_reducible rfl
          simp only [Act.put, List.setIfInBounds_toArray, List.set_cons_zero, List.set_cons_succ]
          refine s_value ?_ (by rfl) ?_ ?_
          rotate_left
          · go_simp
            with_reducible rfl
          simp only [Act.put, List.setIfInBounds_toArray, List.set_cons_zero, List.set_cons_succ]
          refine s_value ?_ (by rfl) ?_ ?_
          rotate_left
          · go_simp
            with_reducible rfl
          simp only [Act.put, List.setIfInBounds_toArray, List.set_cons_zero, List.set_cons_succ]
          refine s_call (.int .u32 (bits .xor .u32 (rot (sc m i15) 7) (rot (sc m i15) 18))) (by rfl) 69 #[.int .u32 (sc m i15), .int .i64 7, .int .i64 18] (by go_simp) (rot_any (sc m i15) 7 18 _ (by decide) (by decide) (by decide) (by decide) B15.out) ?_
          simp only [Act.put, List.setIfInBounds_toArray, List.set_cons_zero, List.set_cons_succ]
          refine s_move _ rfl (by rfl) ?_
          simp only [Act.put, List.setIfInBounds_toArray, List.set_cons_zero, List.set_cons_succ]
          refine s_value ?_ (by rfl) ?_ ?_
          rotate_left
          · go_simp
            with_reducible rfl
          simp only [Act.put, List.setIfInBounds_toArray, List.set_cons_zero, List.set_cons_succ]
          refine s_value ?_ (by rfl) ?_ ?_
          rotate_left
          · go_simp
            with_reducible rfl
          simp only [Act.put, List.setIfInBounds_toArray, List.set_cons_zero, List.set_cons_succ]
          refine s_value ?_ (by rfl) ?_ ?_
          rotate_left
          · go_simp
            with_reducible rfl
          simp only [Act.put, List.setIfInBounds_toArray, List.set_cons_zero, List.set_cons_succ]
          refine s_value ?_ (by rfl) ?_ ?_
          rotate_left
          · go_simp
            with_reducible rfl
          simp only [Act.put, List.setIfInBounds_toArray, List.set_cons_zero, List.set_cons_succ]
          refine s_value ?_ (by rfl) ?_ ?_
          rotate_left
          · go_simp
            with_reducible rfl
          simp only [Act.put, List.setIfInBounds_toArray, List.set_cons_zero, List.set_cons_succ]
          refine s_value ?_ (by rfl) ?_ ?_
          rotate_left
          · go_simp
            with_reducible rfl
          simp only [Act.put, List.setIfInBounds_toArray, List.set_cons_zero, List.set_cons_succ]
          refine s_move _ rfl (by rfl) ?_
          simp only [Act.put, List.setIfInBounds_toArray, List.set_cons_zero, List.set_cons_succ]
          refine s_value ?_ (by rfl) ?_ ?_
          rotate_left
          · go_simp
            with_reducible rfl
          simp only [Act.put, List.setIfInBounds_toArray, List.set_cons_zero, List.set_cons_succ]
          refine s_value ?_ (by rfl) ?_ ?_
          rotate_left
          · go_simp
            with_reducible rfl
          simp only [Act.put, List.setIfInBounds_toArray, List.set_cons_zero, List.set_cons_succ]
          refine s_value ?_ (by rfl) ?_ ?_
          rotate_left
          · go_simp
            with_reducible rfl
          simp only [Act.put, List.setIfInBounds_toArray, List.set_cons_zero, List.set_cons_succ]
          refine s_value ?_ (by rfl) ?_ ?_
          rotate_left
          · go_simp
            with_reducible rfl
          simp only [Act.put, List.setIfInBounds_toArray, List.set_cons_zero, List.set_cons_succ]
          refine s_value ?_ (by rfl) ?_ ?_
          rotate_left
          · go_simp
            with_reducible rfl
          simp only [Act.put, List.setIfInBounds_toArray, List.set_cons_zero, List.set_cons_succ]
          refine wpStill_nil ?_
          go_wp2
          obtain ⟨e2, e7, e15, e16⟩ := HI.out
          have hkk := HR.out
          have h := HB1.out.next (nextW (sc m) k) (sc_high m k hkk.1)
          unfold nextW at h
          rw [← e2, ← e7, ← e15, ← e16] at h
          exact ⟨⟨k + 1, by omega, by omega, by go_num, h⟩, by simp [intOf]; omega⟩
        · obtain rfl : k = 64 := by omega
          have hW : ar4 (uptoW (sc m) 64) 64 = ar4 (sc m) 64 := ar4_congr _ _ _ (fun i hi => by simp [uptoW, hi])
          have rW := hB.w
          rw [hW] at rW
          have rH := hB.h
          have rR := hB.r
          have hold := hB.old
          have hn := hB.n
          clear hB hW
          have hkn : gk < w.heap.size := HK.out.lt
          have hBr : Br w SA gk m (rnds m s 0) (wr.alloc (.cells SA 89)) := by
            refine ⟨rH.alloc _, rR.alloc _, rW.alloc _, ?_, (HK.out.below hold hkn).alloc _, hkn, hold.alloc hold.size _⟩
            have h := Row.new wr SA 89
            rw [hn, HSA.out] at h
            rw [HSA.out]
            exact h
          go_wp2_with (first
            | refine wpList_load_row rfl 89 _ rfl _ rfl 89 SA (0, 0) _ rH Tryd.underlying89 rfl hS8 ?_
            | refine wpList_store_new rfl 89 _ _ rfl wr zst.arr SA 89 rfl (w.heap.size + 1 + 1 + 1) hn.symm rfl rfl hS8 (by rw [hSs]; rfl) hSo ?_)
          clear rH rR rW hold hn
          generalize wr.alloc (.cells SA 89) = W1 at *
          go_loopw [13] (fun i wx => ∃ k : Nat, k ≤ 64 ∧ i = .int .i64 k ∧ Br w SA gk m (rnds m s k) wx) (fun i _ => 64 - (intOf i).toNat)
          case atStart => exact ⟨0, Nat.zero_le _, rfl, hBr⟩
          case round =>
            clear hBr
            obtain ⟨k, hk, rfl, hB⟩ := hrel
            by_cases hlt : k < 64
            · have hvo := rnds_ok m s hok k
              obtain ⟨v, hv⟩ : ∃ v, v = rnds m s k := ⟨_, rfl⟩
              rw [← hv] at hB hvo
              have BE : Hid (0 ≤ v.e ∧ v.e < 4294967296) := hvo 4
              have BA : Hid (0 ≤ v.a ∧ v.a < 4294967296) := hvo 0
              have HV : Hid _ := hv
              have lk : (k : Int) < 64 := by omega
              have HR : Hid (k < 64) := hlt
              have HB0 : Hid (Br w SA gk m v wr) := hB
              have HO : Hid _ := hok
              have HM : Hid _ := hm
              have HS8 : Hid _ := hS8
              have HSs : Hid _ := hSs
              have HSo : Hid _ := hSo
              clear hB hv hvo hok hm hS8 hSs hSo hk hlt hcap hcap' hkn
              go_wp2
              have HB1 : Hid (Br w SA gk m v { wr with drawn := wr.drawn + 1 }) := HB0.out.drew
              clear HB0
              refine wp_region_still_lit (by kernel_rfl) (by kernel_rfl) ?_
              generalize ({ wr with drawn := wr.drawn + 1 } : World) = wd at *
              obtain ⟨c0, c1, c2, c3, c4, c5, c6, c7⟩ := HB1.out.x.cells8
              have cw := HB1.out.w.cell k
              rw [ar4_at _ _ _ HR.out] at cw
              have ck := HB1.out.k.cell k
              rw [ar4_at _ _ _ HR.out] at ck
              refine s_value ?_ (by rfl) ?_ ?_
              rotate_left
              · go_simp
                with_reducible rfl
              simp only [Act.put, List.setIfInBounds_toArray, List.set_cons_zero, List.set_cons_succ]
              refine s_value ?_ (by rfl) ?_ ?_
              rotate_left
              · go_simp
                with_reducible rfl
              simp only [Act.put, List.setIfInBounds_toArray, List.set_cons_zero, List.set_cons_succ]
              refine s_value ?_ (by rfl) ?_ ?_
              rotate_left
              · go_simp
                with_reducible rfl
              simp only [Act.put, List.setIfInBounds_toArray, List.set_cons_zero, List.set_cons_succ]
              refine s_value ?_ (by rfl) ?_ ?_
              rotate_left
              · go_simp
                with_reducible rfl
              simp only [Act.put, List.setIfInBounds_toArray, List.set_cons_zero, List.set_cons_succ]
              refine s_call (.int .u32 (bits .xor .u32 (rot v.e 6) (rot v.e 11))) (by rfl) 69 #[.int .u32 v.e, .int .i64 6, .int .i64 11] (by go_simp) (rot_any v.e 6 11 _ (by decide) (by decide) (by decide) (by decide) BE.out) ?_
              simp only [Act.put, List.setIfInBounds_toArray, List.set_cons_zero, List.set_cons_succ]
              refine s_value ?_ (by rfl) ?_ ?_
              rotate_left
              · go_simp
                with_reducible rfl
              simp only [Act.put, List.setIfInBounds_toArray, List.set_cons_zero, List.set_cons_succ]
              refine s_value ?_ (by rfl) ?_ ?_
              rotate_left
              · go_simp
                with_reducible rfl
              simp only [Act.put, List.setIfInBounds_toArray, List.set_cons_zero, List.set_cons_succ]
              refine s_call (.int .u32 (rot v.e 25)) (by rfl) 70 #[.int .u32 v.e, .int .i64 25] (by go_simp) (refRot_lit v.e 25 _ (by decide) (by decide) BE.out) ?_
              simp only [Act.put, List.setIfInBounds_toArray, List.set_cons_zero, List.set_cons_succ]
              refine s_value ?_ (by rfl) ?_ ?_
              rotate_left
              · go_simp
                with_reducible rfl
              simp only [Act.put, List.setIfInBounds_toArray, List.set_cons_zero, List.set_cons_succ]
              refine s_value ?_ (by rfl) ?_ ?_
              rotate_left
              · go_simp
                with_reducible rfl
              simp only [Act.put, List.setIfInBounds_toArray, List.set_cons_zero, List.set_cons_succ]
              refine s_value ?_ (by rfl) ?_ ?_
              rotate_left
              · go_simp
                with_reducible rfl
              simp only [Act.put, List.setIfInBounds_toArray, List.set_cons_zero, List.set_cons_succ]
              refine s_value ?_ (by rfl) ?_ ?_
              rotate_left
              · go_simp
                with_reducible rfl
              simp only [Act.put, List.setIfInBounds_toArray, List.set_cons_zero, List.set_cons_succ]
              refine s_value ?_ (by rfl) ?_ ?_
              rotate_left
              · go_simp
                with_reducible rfl
              simp only [Act.put, List.setIfInBounds_toArray, List.set_cons_zero, List.set_cons_succ]
              refine s_value ?_ (by rfl) ?_ ?_
              rotate_left
              · go_simp
                with_reducible rfl
              simp only [Act.put, List.setIfInBounds_toArray, List.set_cons_zero, List.set_cons_succ]
              refine s_value ?_ (by rfl) ?_ ?_
              rotate_left
              · go_simp
                with_reducible rfl
              simp only [Act.put, List.setIfInBounds_toArray, List.set_cons_zero, List.set_cons_succ]
              refine s_value ?_ (by rfl) ?_ ?_
              rotate_left
              · go_simp
                with_reducible rfl
              simp only [Act.put, List.setIfInBounds_toArray, List.set_cons_zero, List.set_cons_succ]
              refine s_value ?_ (by rfl) ?_ ?_
              rotate_left
              · go_simp
                with_reducible rfl
              simp only [Act.put, List.setIfInBounds_toArray, List.set_cons_zero, List.set_cons_succ]
              refine s_value ?_ (by rfl) ?_ ?_
              rotate_left
              · go_simp
                with_reducible rfl
              simp only [Act.put, List.setIfInBounds_toArray, List.set_cons_zero, List.set_cons_succ]
              refine s_value ?_ (by rfl) ?_ ?_
              rotate_left
              · go_simp
                with_reducible rfl
              simp only [Act.put, List.setIfInBounds_toArray, List.set_cons_zero, List.set_cons_succ]
              refine s_value ?_ (by rfl) ?_ ?_
              rotate_left
              · go_simp
                with_reducible rfl
              simp only [Act.put, List.setIfInBounds_toArray, List.set_cons_zero, List.set_cons_succ]
              refine s_value ?_ (by rfl) ?_ ?_
              rotate_left
              · go_simp
                with_reducible rfl
              simp only [Act.put, List.setIfInBounds_toArray, List.set_cons_zero, List.set_cons_succ]
              refine s_value ?_ (by rfl) ?_ ?_
              rotate_left
              · go_simp
                with_reducible rfl
              simp only [Act.put, List.setIfInBounds_toArray, List.set_cons_zero, List.set_cons_succ]
              refine s_value ?_ (by rfl) ?_ ?_
              rotate_left
              · go_simp
                with_reducible rfl
              simp only [Act.put, List.setIfInBounds_toArray, List.set_cons_zero, List.set_cons_succ]
              refine s_move _ rfl (by rfl) ?_
              simp only [Act.put, List.setIfInBounds_toArray, List.set_cons_zero, List.set_cons_succ]
              refine s_move _ rfl (by rfl) ?_
              simp only [Act.put, List.setIfInBounds_toArray, List.set_cons_zero, List.set_cons_succ]
              refine s_value ?_ (by rfl) ?_ ?_
              rotate_left
              · go_simp
                with_reducible rfl
              simp only [Act.put, List.setIfInBounds_toArray, List.set_cons_zero, List.set_cons_succ]
              refine s_value ?_ (by rfl) ?_ ?_
              rotate_left
              · go_simp
                with_reducible rfl
              simp only [Act.put, List.setIfInBounds_toArray, List.set_cons_zero, List.set_cons_succ]
              refine s_value ?_ (by rfl) ?_ ?_
              rotate_left
              · go_simp
                with_reducible rfl
              simp only [Act.put, List.setIfInBounds_toArray, List.set_cons_zero, List.set_cons_succ]
              refine s_move _ rfl (by rfl) ?_
              simp only [Act.put, List.setIfInBounds_toArray, List.set_cons_zero, List.set_cons_succ]
              refine s_value ?_ (by rfl) ?_ ?_
              rotate_left
              · go_simp
                with_reducible rfl
              simp only [Act.put, List.setIfInBounds_toArray, List.set_cons_zero, List.set_cons_succ]
              refine s_value ?_ (by rfl) ?_ ?_
              rotate_left
              · go_simp
                with_reducible rfl
              simp only [Act.put, List.setIfInBounds_toArray, List.set_cons_zero, List.set_cons_succ]
              refine s_value ?_ (by rfl) ?_ ?_
              rotate_left
              · go_simp
                with_reducible rfl
              simp only [Act.put, List.setIfInBounds_toArray, List.set_cons_zero, List.set_cons_succ]
              refine s_value ?_ (by rfl) ?_ ?_
              rotate_left
              · go_simp
                with_reducible rfl
              simp only [Act.put, List.setIfInBounds_toArray, List.set_cons_zero, List.set_cons_succ]
              refine wpStill_nil ?_
              clear c0 c1 c2 c3 c4 c5 c6 c7 cw ck
              go_wp2
              have HB2 : Hid (Br w SA gk m v { wd with drawn := wd.drawn + 1 }) := HB1.out.drew
              clear HB1
              refine wp_region_still_lit (by kernel_rfl) (by kernel_rfl) ?_
              generalize ({ wd with drawn := wd.drawn + 1 } : World) = we at *
              obtain ⟨c0, c1, c2, c3, c4, c5, c6, c7⟩ := HB2.out.x.cells8
              refine s_value ?_ (by rfl) ?_ ?_
              rotate_left
              · go_simp
                with_reducible rfl
              simp only [Act.put, List.setIfInBounds_toArray, List.set_cons_zero, List.set_cons_succ]
              refine s_value ?_ (by rfl) ?_ ?_
              rotate_left
              · go_simp
                with_reducible rfl
              simp only [Act.put, List.setIfInBounds_toArray, List.set_cons_zero, List.set_cons_succ]
              refine s_call (.int .u32 (bits .xor .u32 (rot v.a 2) (rot v.a 13))) (by rfl) 69 #[.int .u32 v.a, .int .i64 2, .int .i64 13] (by go_simp) (rot_any v.a 2 13 _ (by decide) (by decide) (by decide) (by decide) BA.out) ?_
              simp only [Act.put, List.setIfInBounds_toArray, List.set_cons_zero, List.set_cons_succ]
              refine s_value ?_ (by rfl) ?_ ?_
              rotate_left
              · go_simp
                with_reducible rfl
              simp only [Act.put, List.setIfInBounds_toArray, List.set_cons_zero, List.set_cons_succ]
              refine s_value ?_ (by rfl) ?_ ?_
              rotate_left
              · go_simp
                with_reducible rfl
              simp only [Act.put, List.setIfInBounds_toArray, List.set_cons_zero, List.set_cons_succ]
              refine s_call (.int .u32 (rot v.a 22)) (by rfl) 70 #[.int .u32 v.a, .int .i64 22] (by go_simp) (refRot_lit v.a 22 _ (by decide) (by decide) BA.out) ?_
              simp only [Act.put, List.setIfInBounds_toArray, List.set_cons_zero, List.set_cons_succ]
              refine s_value ?_ (by rfl) ?_ ?_
              rotate_left
              · go_simp
                with_reducible rfl
              simp only [Act.put, List.setIfInBounds_toArray, List.set_cons_zero, List.set_cons_succ]
              refine s_value ?_ (by rfl) ?_ ?_
              rotate_left
              · go_simp
                with_reducible rfl
              simp only [Act.put, List.setIfInBounds_toArray, List.set_cons_zero, List.set_cons_succ]
              refine s_value ?_ (by rfl) ?_ ?_
              rotate_left
              · go_simp
                with_reducible rfl
              simp only [Act.put, List.setIfInBounds_toArray, List.set_cons_zero, List.set_cons_succ]
              refine s_value ?_ (by rfl) ?_ ?_
              rotate_left
              · go_simp
                with_reducible rfl
              simp only [Act.put, List.setIfInBounds_toArray, List.set_cons_zero, List.set_cons_succ]
              refine s_value ?_ (by rfl) ?_ ?_
              rotate_left
              · go_simp
                with_reducible rfl
              simp only [Act.put, List.setIfInBounds_toArray, List.set_cons_zero, List.set_cons_succ]
              refine s_value ?_ (by rfl) ?_ ?_
              rotate_left
              · go_simp
                with_reducible rfl
              simp only [Act.put, List.setIfInBounds_toArray, List.set_cons_zero, List.set_cons_succ]
              refine s_value ?_ (by rfl) ?_ ?_
              rotate_left
              · go_simp
                with_reducible rfl
              simp only [Act.put, List.setIfInBounds_toArray, List.set_cons_zero, List.set_cons_succ]
              refine s_value ?_ (by rfl) ?_ ?_
              rotate_left
              · go_simp
                with_reducible rfl
              simp only [Act.put, List.setIfInBounds_toArray, List.set_cons_zero, List.set_cons_succ]
              refine s_value ?_ (by rfl) ?_ ?_
              rotate_left
              · go_simp
                with_reducible rfl
              simp only [Act.put, List.setIfInBounds_toArray, List.set_cons_zero, List.set_cons_succ]
              refine s_value ?_ (by rfl) ?_ ?_
              rotate_left
              · go_simp
                with_reducible rfl
              simp only [Act.put, List.setIfInBounds_toArray, List.set_cons_zero, List.set_cons_succ]
              refine s_value ?_ (by rfl) ?_ ?_
              rotate_left
              · go_simp
                with_reducible rfl
              simp only [Act.put, List.setIfInBounds_toArray, List.set_cons_zero, List.set_cons_succ]
              refine s_value ?_ (by rfl) ?_ ?_
              rotate_left
              · go_simp
                with_reducible rfl
              simp only [Act.put, List.setIfInBounds_toArray, List.set_cons_zero, List.set_cons_succ]
              refine s_value ?_ (by rfl) ?_ ?_
              rotate_left
              · go_simp
                with_reducible rfl
              simp only [Act.put, List.setIfInBounds_toArray, List.set_cons_zero, List.set_cons_succ]
              refine s_value ?_ (by rfl) ?_ ?_
              rotate_left
              · go_simp
                with_reducible rfl
              simp only [Act.put, List.setIfInBounds_toArray, List.set_cons_zero, List.set_cons_succ]
              refine s_value ?_ (by rfl) ?_ ?_
              rotate_left
              · go_simp
                with_reducible rfl
              simp only [Act.put, List.setIfInBounds_toArray, List.set_cons_zero, List.set_cons_succ]
              refine s_value ?_ (by rfl) ?_ ?_
              rotate_left
              · go_simp
                with_reducible rfl
              simp only [Act.put, List.setIfInBounds_toArray, List.set_cons_zero, List.set_cons_succ]
              refine s_value ?_ (by rfl) ?_ ?_
              rotate_left
              · go_simp
                with_reducible rfl
              simp only [Act.put, List.setIfInBounds_toArray, List.set_cons_zero, List.set_cons_succ]
              refine s_value ?_ (by rfl) ?_ ?_
              rotate_left
              · go_simp
                with_reducible rfl
              simp only [Act.put, List.setIfInBounds_toArray, List.set_cons_zero, List.set_cons_succ]
              refine s_value ?_ (by rfl) ?_ ?_
              rotate_left
              · go_simp
                with_reducible rfl
              simp only [Act.put, List.setIfInBounds_toArray, List.set_cons_zero, List.set_cons_succ]
              refine s_value ?_ (by rfl) ?_ ?_
              rotate_left
              · go_simp
                with_reducible rfl
              simp only [Act.put, List.setIfInBounds_toArray, List.set_cons_zero, List.set_cons_succ]
              refine wpStill_nil ?_
              go_wp2_with (refine wpList_store_row rfl 89 _ _ rfl (w.heap.size + 1 + 1 + 1) _ rfl rfl 89 v.arr HB2.out.x ?hi ?hold ?h1 ?_)
              case hi => exact info45
              case hold => rfl
              case h1 => simp [Value.oneCell']
              have hN := HB2.out.next (v' := rnd v ((kc k + sc m k) % 4294967296))
              rw [rnd_arr] at hN
              refine ⟨⟨k + 1, HR.out, by go_num, ?_⟩, by simp [intOf]; omega⟩
              simp only [rnds]
              rw [← HV.out]
              exact hN
            · obtain rfl : k = 64 := by omega
              obtain ⟨v, hv⟩ : ∃ v, v = rnds m s 64 := ⟨_, rfl⟩
              have hF : ar4 (added s v 8) 8 = (ovr m s).arr := by
                unfold ovr
                rw [St.of_arr, ← hv]
                exact ar4_congr _ _ _ (fun i hi => by simp [added, hi])
              have hS0 : SA = ar4 (added s v 0) 8 := by
                rw [HSA.out, St.arr_at]
                exact ar4_congr _ _ _ (fun i _ => by simp [added])
              rw [← hv] at hB
              have h0 := hB.h
              have h1 := hB.r
              have h2 := hB.x
              have h3 := hB.old
              rw [hS0] at h0
              rw [St.arr_at] at h2
              have HF : Hid _ := hF
              clear hB hv hS0 hF
              go_wp2
              go_loopw [16] (fun i wx => ∃ j : Nat, j ≤ 8 ∧ i = .int .i64 j ∧ Row wx w.heap.size (ar4 (added s v j) 8) 89 ∧ Row wx (w.heap.size + 1) zst.arr 89 ∧ Row wx (w.heap.size + 1 + 1 + 1) (ar4 v.at 8) 89 ∧ Below w.heap.size w wx) (fun i _ => 8 - (intOf i).toNat)
              case atStart => exact ⟨0, Nat.zero_le _, rfl, h0, h1, h2, h3⟩
              case round =>
                clear h0 h1 h2 h3
                obtain ⟨j, hj, rfl, h0, h1, h2, h3⟩ := hrel
                by_cases hjl : j < 8
                · have c0 := h0.cell j
                  have c2 := h2.cell j
                  rw [ar4_at _ _ _ hjl] at c0 c2
                  have e0 : added s v j j = s.at j := by simp [added]
                  rw [e0] at c0
                  have z := h0.frozen j
                  clear e0
                  go_wp2
                  go_region
                  go_wp2
                  refine ⟨⟨j + 1, by omega, by go_num, ?_, (h1.setCell_other (by omega) _).drew, (h2.setCell_other (by omega) _).drew, (h3.setCell (by simp) _).drew⟩, by simp [intOf]; omega⟩
                  have h := (h0.setCell (i := j) (.int .u32 ((s.at j + v.at j) % 4294967296))).drew
                  rw [added_next] at h
                  exact h
                · obtain rfl : j = 8 := by omega
                  rw [HF.out] at h0
                  have hi := (ovr m s).arr_info45
                  have ho := (ovr m s).arr_one
                  go_wp2_with (first | refine wpList_load_row rfl 89 _ rfl _ rfl 89 (ovr m s).arr (0, 0) _ h0 Tryd.underlying89 rfl hi ?_ | refine wpList_store_row rfl 89 _ _ rfl (w.heap.size + 1) (ovr m s).arr rfl rfl 89 zst.arr h1 hi rfl ho ?_)
                  refine bodyPost_ret (results_cell_row results22 _ _ (w.heap.size + 1) 89 _ (0, 0) _ rfl h1.setRow Tryd.underlying89 rfl hi) rfl ⟨rfl, below_setRow h3 (by omega) _⟩
end Go.Proofs.YtpkbfljoakodoaaDoor.S2
namespace Go.Proofs.YtpkbfljoakodoaaDoor.S2
set_option maxRecDepth 20000
open Go.RowKit Num

theorem own_grown {w wr w1 : World} {v : Value} {n : Nat} {xs : List Value} (hown : wr.ownsRow w.heap.size 5 1 v n xs) (hb : Below w.heap.size w wr) (hgrow : wr.grownBy w1 v.ownBlock) : Below w.heap.size w w1 := by
  refine hb.grown hgrow hb.size (fun r hr => ?_)
  obtain ⟨_, ⟨rfl, _⟩ | ⟨g', cap, cur, rfl, hle, _⟩⟩ := hown
  · cases hr
  · simp [Value.ownBlock] at hr; omega

theorem ownsRow_below {w w' : World} {B n : Nat} {v : Value} {xs : List Value} (h : w.ownsRow B 5 1 v n xs) (hb : Below w.heap.size w w') : w'.ownsRow B 5 1 v n xs := by
  obtain ⟨h1, h2 | ⟨g, cap, cur, e1, e2, e3, e4⟩⟩ := h
  · exact ⟨h1, .inl h2⟩
  · refine ⟨h1, .inr ⟨g, cap, cur, e1, e2, ?_, e4⟩⟩
    obtain ⟨hlt, _⟩ := Array.getElem?_eq_some_iff.1 e3
    exact (hb.block g hlt).trans e3

/-- 'append(v, xs...)', v the call's own, xs bytes that came in, nil or not. -/
theorem wpList_append_bytes {w : World} {ops : Array Oper} {rest : List Oper} {o : Oper} {act : Act} {Q : Exit → Act → World → Prop} (hgd : o.guard = none) (s x : Operand)
    (ho : o.op = .call { callee := .builtin .append, args := #[s, x], argTypes := #[22, 22] }) (base : Nat) (v : Value) (n : Nat) (xs : List Value) (hs : act.eval s = v) (hown : w.ownsRow base 5 1 v n xs)
    (a : Option Addr) (b off len cap : Nat) (f : Nat → Int) (hx : act.eval x = .slice a len cap) (hB : Bs w a b off len f) (hnone : a = none → len = 0 ∧ cap = 0) (hl : n + len ≤ 140737488351232) (hbase : base ≤ w.heap.size)
    (h : ∀ v' w', w'.ownsRow base 5 1 v' (n + len) (xs ++ (arr f len).toList) → w.grownBy w' v.ownBlock → wpList Tryd.prog ops Q rest (act.put o.dst v') w') : wpList Tryd.prog ops Q (o :: rest) act w := by
  obtain ⟨i0, hi, hz0, hz1, hz2⟩ := info_parts Tryd.info5
  cases a with
  | none =>
    obtain ⟨rfl, rfl⟩ := hnone rfl
    exact wpList_append_own_none hgd s x 22 ho base 5 i0 1 Tryd.underlying22 hi v n xs hs hown hx (h v w (by simpa [arr] using hown) ⟨rfl, rfl, rfl, Nat.le_refl _, fun _ _ _ => rfl⟩)
  | some ad =>
    refine wpList_append_own_wide w hgd s x 22 ho base 5 i0 (.int .u8 0) 1 1 Tryd.underlying22 hi hz0 hz1 hz2 rfl (by decide) v n xs hs hown ad len cap (arr f len).toList hx (by simp [arr_size]) ?_ ?_ (by unfold maxLen; omega) (by omega) hbase (fun v' w' h1 h2 _ => h v' w' h1 h2)
    · intro j u hj
      have hjl : j < len := by simpa [arr_size] using (List.getElem?_eq_some_iff.1 hj).1
      have e : ad = ⟨b, off, none⟩ := Option.some.inj (hB.at' (by omega))
      subst e
      rw [Addr.add_mid, hB.cell j hjl, ← arr_at f len j hjl]
      simpa using hj
    · intro u hu
      exact Array.all_eq_true_iff_forall_mem.1 (arr_one f len) u (by simpa using hu)

/-- The length of a slice. -/
def vlen : Value → Nat
  | .slice _ n _ => n
  | _ => 0

/-- The first n bytes of the message. -/
def msgL (f : Nat → Int) (len T n : Nat) : List Value := (arr (msg f len T) n).toList
theorem msgL_succ (f : Nat → Int) (len T n : Nat) : msgL f len T (n + 1) = msgL f len T n ++ [.int .u8 (msg f len T n)] := by simp [msgL, arr, List.range_succ]
theorem msgL_len (f : Nat → Int) (len T : Nat) : msgL f len T len = (arr f len).toList := by
  unfold msgL
  rw [arr_congr (msg f len T) f len (fun i hi => by simp [msg, hi])]

/-- The number of bits, in eight bytes, behind the rest. -/
theorem msgL_end (f : Nat → Int) (len T n : Nat) (hn : n + 8 = T) (hl : len < n) : msgL f len T n ++ (arr (len8 len) 8).toList = msgL f len T T := by
  unfold msgL arr
  apply List.ext_getElem?
  intro i
  by_cases h : i < n
  · rw [List.getElem?_append_left (by simpa using h)]
    simp [h, show i < T by omega]
  · rw [List.getElem?_append_right (by simp; omega)]
    by_cases h2 : i < T
    · simp only [List.length_map, List.length_range, List.getElem?_map]
      rw [List.getElem?_range (by omega), List.getElem?_range h2]
      simp only [Option.map_some]
      congr 2
      unfold msg len8
      rw [if_neg (by omega), if_neg (by omega), if_neg (by omega), if_pos h2, show 8 - 1 - (i - n) = T - 1 - i by omega]
    · rw [List.getElem?_eq_none (by simp; omega), List.getElem?_eq_none (by simp; omega)]

/-- What the loop of the chunks keeps. -/
structure Rs (w0 : World) (Z : Array Value) (g T : Nat) (cur : Array Value) (s : St) (wr : World) : Prop where
  r : Row wr w0.heap.size Z 45
  s : Row wr (w0.heap.size + 1) s.arr 89
  k : Row wr (w0.heap.size + 1 + 1) (ar4 kc 64) 88
  m : Row wr g cur 5
  mn : w0.heap.size + 1 + 1 < g
  old : Below w0.heap.size w0 wr
theorem Rs.next {w0 : World} {Z cur : Array Value} {g T : Nat} {s s' : St} {wr w2 : World} (h : Rs w0 Z g T cur s wr) (hb : Below wr.heap.size wr w2) : Rs w0 Z g T cur s' (w2.setRow (w0.heap.size + 1) s'.arr) := by
  have := h.mn
  exact ⟨(h.r.below hb h.r.lt).other (by omega), (h.s.below hb h.s.lt).setRow, (h.k.below hb h.k.lt).other (by omega), (h.m.below hb h.m.lt).other (by omega), h.mn, below_setRow (h.old.trans (hb.mono h.old.size)) (by omega) _⟩

theorem results9 : Tryd.f36.results = #[.cell 2 45] := by kernel_rfl

set_option maxHeartbeats 2000000 in
theorem refSum_any (a : Option Addr) (b off len cap q n E : Nat) (f : Nat → Int) (w : World) (hB : Bs w a b off len f) (hnone : a = none → len = 0 ∧ cap = 0) (hl : len ≤ 140737488351232)
    (hq : len = 64 * q + n) (hn : n < 64) (hE : E = if n + 9 > 64 then 2 else 1) :
    Calls Tryd.prog 36 #[.slice a len cap] w fun e w' => e = .returned (.agg (arr (dig (hs f len (64 * q + 64 * E) (q + E))) 32)) ∧ Below w.heap.size w w' := by
  obtain ⟨i0, hi0, hz0, hz1, hz2⟩ := info_parts Tryd.info5
  obtain ⟨Z, hZ⟩ : ∃ Z, Z = zeros32 := ⟨_, rfl⟩
  have hZs : Z.size = 32 := by rw [hZ]; rfl
  have hZa : Z = arr (fun _ => 0) 32 := by rw [hZ]; exact zeros32_arr
  unfold zeros32 at hZ
  have HZ : Hid _ := hZ
  have HZa : Hid _ := hZa
  clear hZ hZa
  obtain ⟨T, hT⟩ : ∃ T, T = 64 * q + 64 * E := ⟨_, rfl⟩
  obtain ⟨J, hJ⟩ : ∃ J, J = q + E := ⟨_, rfl⟩
  rw [← hT, ← hJ]
  have hT1 : len + 9 ≤ T := by rw [hT, hq, hE]; split <;> omega
  have hT2 : T ≤ len + 72 := by rw [hT, hq, hE]; split <;> omega
  have hT3 : T % 64 = 0 := by omega
  have HJ : Hid (T = 64 * J) := by show T = 64 * J; omega
  have HQ : Hid (1 ≤ E) := by show 1 ≤ E; rw [hE]; split <;> omega
  clear hT hq hE hn hJ
  have HB : Hid _ := hB
  have HBD : Hid (∀ i, 0 ≤ f i ∧ f i < 256) := hB.bd
  have HN : Hid _ := hnone
  clear hB hnone
  have hV : Row (((w.alloc (.cells Z 45)).alloc (.cells st0.arr 89)).alloc (.cells (ar4 kc 64) 88)) w.heap.size Z 45 ∧ Row (((w.alloc (.cells Z 45)).alloc (.cells st0.arr 89)).alloc (.cells (ar4 kc 64) 88)) (w.heap.size + 1) st0.arr 89 ∧
      Row (((w.alloc (.cells Z 45)).alloc (.cells st0.arr 89)).alloc (.cells (ar4 kc 64) 88)) (w.heap.size + 1 + 1) (ar4 kc 64) 88 ∧ Below w.heap.size w (((w.alloc (.cells Z 45)).alloc (.cells st0.arr 89)).alloc (.cells (ar4 kc 64) 88)) ∧ (((w.alloc (.cells Z 45)).alloc (.cells st0.arr 89)).alloc (.cells (ar4 kc 64) 88)).heap.size = w.heap.size + 1 + 1 + 1 := by
    refine ⟨((Row.new w Z 45).alloc _).alloc _, ?_, ?_, (((Below.refl _ _).alloc (Nat.le_refl _) _).alloc (by simp) _).alloc (by simp; omega) _, by simp⟩
    · have h := Row.new (w.alloc (.cells Z 45)) st0.arr 89
      rw [World.size_alloc] at h
      exact h.alloc _
    · have h := Row.new ((w.alloc (.cells Z 45)).alloc (.cells st0.arr 89)) (ar4 kc 64) 88
      rw [World.size_alloc, World.size_alloc] at h
      exact h
  have i45 := st0.arr_info45
  have o45 := st0.arr_one
  have HC := constants_any ((w.alloc (.cells Z 45)).alloc (.cells st0.arr 89))
  go_enter Tryd.func36, Tryd.ntmps36
  go_wp2_with (refine wpList_store_new rfl 89 _ _ rfl (w.alloc (.cells Z 45)) zst.arr st0.arr 89 (by rw [HZ.out]; rfl) (w.heap.size + 1) (by simp) rfl rfl i45 rfl o45 ?_)
  refine HC.mono ?_
  rintro e w1 ⟨rfl, hw1⟩
  subst hw1
  rw [show ((w.alloc (.cells Z 45)).alloc (.cells st0.arr 89)).heap.size = w.heap.size + 1 + 1 by simp]
  generalize ((w.alloc (.cells Z 45)).alloc (.cells st0.arr 89)).alloc (.cells (ar4 kc 64) 88) = V at *
  obtain ⟨rR, rH, rK, hbV, hVs⟩ := hV
  have HBV := HB.out.below hbV
  have HB1 : Hid (Bs V a b off len f) := HBV
  have HVs : Hid _ := hVs
  clear HC i45 o45 HB HBV hVs
  go_wp2_with (at_builtin; refine wpList_append_bytes rfl (.tmp 13) (.tmp 14) rfl V.heap.size _ 0 [] rfl (World.ownsRow_lit V #[] 0 (Nat.le_refl _) (by decide) rfl) a b off len cap f rfl (HB1.out.below ((Below.refl _ _).alloc (Nat.le_refl _) _)) HN.out (by omega) (by simp) ?_)
  intro v1 w1 own1 grow1
  have hb1 : Below V.heap.size V w1 := own_grown (World.ownsRow_lit V #[] 0 (Nat.le_refl _) (by decide) rfl) ((Below.refl _ _).alloc (Nat.le_refl _) _) grow1
  have hsz1 := hb1.size
  clear grow1
  go_wp2_with (at_builtin; refine wpList_append_own_wide _ rfl (.tmp 15) (.tmp 16) 22 rfl V.heap.size 5 i0 (.int .u8 0) 1 1 Tryd.underlying22 hi0 hz0 hz1 hz2 rfl (by decide) _ _ _ rfl (own1.alloc _) ⟨w1.heap.size, 0, none⟩ 1 1 [.int .u8 128] rfl rfl ?c1 ?c2 ?c3 ?c4 ?c5 ?_)
  case c1 => exact cell_one_new _ _ _
  case c2 => intro u hu; simp at hu; subst hu; rfl
  case c3 => unfold maxLen; omega
  case c4 => omega
  case c5 => simp; omega
  intro v2 w2 own2 grow2 _
  have hb2 : Below V.heap.size V w2 := own_grown (own1.alloc _) (hb1.alloc hsz1 _) grow2
  have own3 : w2.ownsRow V.heap.size 5 1 v2 (len + 1) (msgL f len T (len + 1)) := by
    rw [msgL_succ, msgL_len]
    have e : msg f len T len = 128 := by simp [msg]
    rw [e]
    simpa using own2
  clear grow2 own1 hb1 hsz1 own2
  go_wp2
  go_loopw [5] (fun v wr => ∃ n' : Nat, len + 1 ≤ n' ∧ n' + 8 ≤ T ∧ wr.ownsRow V.heap.size 5 1 v n' (msgL f len T n') ∧ Below V.heap.size V wr) (fun v _ => T - vlen v)
  case atStart => exact ⟨len + 1, Nat.le_refl _, by omega, own3, hb2⟩
  case round =>
    clear own3 hb2
    obtain ⟨n', hn1, hn2, hown, hb⟩ := hrel
    obtain ⟨_, ⟨_, hz⟩ | ⟨g, capm, cur, hv, hg⟩⟩ := id hown
    · omega
    subst hv
    by_cases hend : n' + 8 = T
    · have heq : ((n' : Int) % 64 != 56) = false := by simp; omega
      have HBy := refBytes_any ((len : Int) * 8) 8 wr (by decide) (by decide) (by omega) (by omega)
      clear hg
      go_wp2_with fail
      refine HBy.mono ?_
      rintro e w3 ⟨rfl, hb3, hsz3, hrow3⟩
      have own4 := ownsRow_below hown hb3
      have hb4 := hb.trans (hb3.mono hb.size)
      have hsz4 := hb4.size
      clear HBy hown hb hb3
      go_wp2_with (at_builtin; refine wpList_append_own_wide _ rfl (.tmp 33) (.tmp 34) 22 rfl V.heap.size 5 i0 (.int .u8 0) 1 1 Tryd.underlying22 hi0 hz0 hz1 hz2 rfl (by decide) _ _ _ rfl own4 ⟨wr.heap.size, 0, none⟩ 8 8 (arr (len8 len) 8).toList rfl ?c0 ?c1 ?c2 ?c3 ?c4 ?c5 ?_)
      case c0 => simp [arr_size]
      case c1 =>
        intro x u hx
        have hx' : x < 8 := by simpa [arr_size] using (List.getElem?_eq_some_iff.1 hx).1
        rw [Addr.add_mid, Nat.zero_add, hrow3.cell hx', ← hx]
        have e := arr_at (len8 len) 8 x hx'
        rw [Array.getElem?_toList, e, len8, Int.mul_comm]
      case c2 => intro u hu; exact Array.all_eq_true_iff_forall_mem.1 (arr_one (len8 len) 8) u (by simpa using hu)
      case c3 => unfold maxLen; omega
      case c4 => omega
      case c5 => omega
      intro v5 w5 own5 grow5 _
      have hb5 : Below V.heap.size V w5 := own_grown own4 hb4 grow5
      rw [msgL_end f len T n' hend (by omega)] at own5
      clear grow5 own4 hb4 hsz4 hrow3 hsz3
      obtain ⟨_, ⟨_, hz⟩ | ⟨gm, cm, cu, hv5, hgm, hrm, hcm, hcm2, hcs, hct⟩⟩ := own5
      · omega
      subst hv5
      have hcu : ∀ i, i < T → cu[i]? = some (.int .u8 (msg f len T i)) := fun i hi => by
        have h := congrArg (·[i]?) hct
        simp only [List.getElem?_take_of_lt (show i < T * 1 by omega)] at h
        rw [msgL, Array.getElem?_toList, Array.getElem?_toList, arr_at _ _ _ hi] at h
        exact h
      have hbw : Below w.heap.size w w5 := hbV.trans (hb5.mono hbV.size)
      have hR0 : Rs w Z gm T cu (hs f len T 0) w5 := ⟨rR.below hb5 rR.lt, rH.below hb5 rH.lt, rK.below hb5 rK.lt, hrm, by rw [HVs.out] at hgm; omega, hbw⟩
      have hcm3 : cm ≤ 9223372036854775807 := by unfold maxLen at hcm2; omega
      have HCU : Hid _ := hcu
      have hTJ : (T : Int) = 64 * (J : Int) := by have h := HJ.out; omega
      clear hcu hct hcs hcm2 hrm hgm hbw hb5 rR rH rK hbV HB1 hn1 hn2 hend heq
      go_wp2
      go_loopw [8] (fun i wr => ∃ j : Nat, j ≤ J ∧ i = .int .i64 (64 * (j : Int)) ∧ Rs w Z gm T cu (hs f len T j) wr) (fun i _ => T - (intOf i).toNat)
      case atStart => exact ⟨0, Nat.zero_le _, rfl, hR0⟩
      case round =>
        clear hR0
        obtain ⟨j, hj, rfl, hO⟩ := hrel
        by_cases hlt : j < J
        · have hjT : 64 * (j : Int) < (T : Int) := by omega
          have hcell : ∀ i, i < 64 → wr.cell? ⟨gm, 64 * j + i, none⟩ = some (.int .u8 (msg f len T (64 * j + i))) := fun i hi => by
            rw [hO.m.cell, HCU.out _ (by rw [HJ.out]; omega)]
          have HO := fun (wx : World) (hx : Below wr.heap.size wr wx) => block_any (hs f len T j) (hs_ok f len T j) gm (64 * j) (cm - 64 * j) (w.heap.size + 1 + 1) (fun i => msg f len T (64 * j + i)) wx (hO.k.below hx hO.k.lt) (by omega) (by omega)
            (fun i hi => by rw [hx.cell (p := ⟨gm, 64 * j + i, none⟩) (World.block_lt_of_cell? _ _ (hcell i hi))]; exact hcell i hi) (fun i => msg_bd f len T HBD.out _)
          obtain ⟨v, hv⟩ : ∃ v, v = hs f len T j := ⟨_, rfl⟩
          have HV : Hid (ovr (fun i => msg f len T (64 * j + i)) v = hs f len T (j + 1)) := by rw [hv]; rfl
          rw [← hv] at hO HO
          obtain ⟨c0, c1, c2, c3, c4, c5, c6, c7⟩ := hO.s.cells8
          have HO' : Hid _ := HO
          have hsl := slice_lh gm 0 T cm (64 * j) 64 (by omega) (by omega) (64 * (j : Int)) (64 * (j : Int) + 64) (by omega) (by omega)
          simp only [Nat.zero_add] at hsl
          have hw64 : IntKind.i64.wrap (64 * (j : Int) + 64) = 64 * (j : Int) + 64 := by rw [IntKind.wrap_i64]; omega
          clear HO hv hcell hTJ
          go_wp2
          go_region_with (go_at_call 56; refine (HO'.out _ (Below.refl _ _).drew).mono ?_; rintro e w2 ⟨rfl, hb2⟩; have hst := storeCells_row (C := (ovr (fun i => msg f len T (64 * j + i)) v).arr) (hO.s.drew.below hb2 hO.s.drew.lt) rfl (St.arr_one _); have hs8 := St.arr_size (ovr (fun i => msg f len T (64 * j + i)) v))
          all_goals
            have hN : Rs w Z gm T cu (ovr (fun i => msg f len T (64 * j + i)) v) (w2.setRow (w.heap.size + 1) (ovr (fun i => msg f len T (64 * j + i)) v).arr) := hO.next ((Below.refl _ _).drew.trans hb2)
            rw [HV.out] at hN
            clear hst hs8 hO
            go_wp2
            go_roundw
            case rel => exact ⟨j + 1, by omega, by go_num, by rw [HV.out]; exact hN⟩
            case measure => simp [intOf]; omega
        · obtain rfl : j = J := by omega
          have hbd : ∀ i, 0 ≤ (hs f len T j).at i ∧ (hs f len T j).at i < 4294967296 := hs_ok f len T j
          have rR := hO.r
          have rS := hO.s
          rw [St.arr_at] at rS
          have hold := hO.old
          have hnn : w.heap.size + 1 < wr.heap.size := hO.s.lt
          have rD : Row (wr.alloc (.cells Z 45)) wr.heap.size (arr (uptoW (dig (hs f len T j)) 0) 32) 45 := by
            have e : Z = arr (uptoW (dig (hs f len T j)) 0) 32 := by rw [HZa.out]; exact arr_congr _ _ _ (fun i _ => by simp [uptoW])
            rw [← e]
            exact Row.new wr Z 45
          have rR1 := rR.alloc (.cells Z 45)
          have rS1 := rS.alloc (.cells Z 45)
          have hold1 : Below w.heap.size w (wr.alloc (.cells Z 45)) := hold.alloc hold.size _
          clear hO HCU rR rS hold
          go_wp2
          rw [← HZ.out]
          generalize wr.alloc (.cells Z 45) = W6 at *
          generalize wr.heap.size = nD at *
          go_loopw [10] (fun i wx => ∃ k : Nat, k ≤ 32 ∧ i = .int .i64 k ∧ Row wx w.heap.size Z 45 ∧ Row wx (w.heap.size + 1) (ar4 (hs f len T j).at 8) 89 ∧ Row wx nD (arr (uptoW (dig (hs f len T j)) k) 32) 45 ∧ Below w.heap.size w wx) (fun i _ => 32 - (intOf i).toNat)
          case atStart => exact ⟨0, Nat.zero_le _, rfl, rR1, rS1, rD, hold1⟩
          case round =>
            clear rR1 rS1 rD hold1
            obtain ⟨k, hk, rfl, rR, rS, rD, hold⟩ := hrel
            by_cases hkl : k < 32
            · have c0 := rS.cell (k / 4)
              rw [ar4_at _ _ _ (by omega)] at c0
              have c1 := rD.cell k
              rw [arr_at _ _ _ hkl] at c1
              have z := rD.frozen k
              have hb4 := hbd (k / 4)
              generalize hx : (hs f len T j).at (k / 4) = x at *
              go_wp2
              refine ⟨⟨k + 1, by omega, by go_num, rR.setCell_other (by omega) _, rS.setCell_other (by omega) _, ?_, hold.setCell (by simp; omega) _⟩, by simp [intOf]; omega⟩
              have h := rD.setCell (i := k) (.int .u8 (x / 2 ^ (24 - 8 * (k % 4)) % 256))
              rw [arr_set (uptoW (dig (hs f len T j)) k) (uptoW (dig (hs f len T j)) (k + 1)) 32 k _ (fun i hi => by
                unfold uptoW
                by_cases e : i = k
                · rw [if_pos e, if_pos (by omega), e]
                  unfold dig byteOf
                  rw [if_pos hkl, hx, show 8 * (3 - k % 4) = 24 - 8 * (k % 4) by omega]
                · rw [if_neg e]
                  by_cases h : i < k
                  · rw [if_pos h, if_pos (by omega)]
                  · rw [if_neg h, if_neg (by omega)])] at h
              exact h
            · obtain rfl : k = 32 := by omega
              have hA : arr (uptoW (dig (hs f len T j)) 32) 32 = arr (dig (hs f len T j)) 32 := arr_congr _ _ _ (fun i hi => by simp [uptoW, hi])
              rw [hA] at rD
              have hone := arr_one (dig (hs f len T j)) 32
              have hAs := arr_size (dig (hs f len T j)) 32
              have hi23 : (Tryd.prog.info? 45).map (·.size) = some (arr (dig (hs f len T j)) 32).size := by rw [hAs]; exact info23
              clear hA
              go_wp2_with (first | refine wpList_load_row rfl 45 _ rfl _ rfl 45 (arr (dig (hs f len T j)) 32) (0, 0) _ rD Tryd.underlying45 rfl hi23 ?_ | refine wpList_store_row rfl 45 _ _ rfl w.heap.size (arr (dig (hs f len T j)) 32) rfl rfl 45 Z rR hi23 (hZs.trans hAs.symm) hone ?_)
              refine bodyPost_ret (results_cell_row results9 _ _ w.heap.size 45 _ (0, 0) _ rfl rR.setRow Tryd.underlying45 rfl hi23) rfl ⟨rfl, below_setRow hold (Nat.le_refl _) _⟩
    · have hne : ¬ (n' : Int) % 64 = 56 := by omega
      have hne' : ((n' : Int) % 64 != 56) = true := by simpa using hne
      have hsz := hb.size
      clear hg
      go_wp2_with (at_builtin; refine wpList_append_own_wide _ rfl (.tmp 22) (.tmp 23) 22 rfl V.heap.size 5 i0 (.int .u8 0) 1 1 Tryd.underlying22 hi0 hz0 hz1 hz2 rfl (by decide) _ _ _ rfl (hown.alloc _) ⟨wr.heap.size, 0, none⟩ 1 1 [.int .u8 0] rfl rfl ?c1 ?c2 ?c3 ?c4 ?c5 ?_)
      case c1 => exact cell_one_new _ _ _
      case c2 => intro u hu; simp at hu; subst hu; rfl
      case c3 => unfold maxLen; omega
      case c4 => omega
      case c5 => simp; omega
      intro v3 w3 own3 grow3 _
      have hb3 : Below V.heap.size V w3 := own_grown (hown.alloc _) (hb.alloc hsz _) grow3
      have own4 : w3.ownsRow V.heap.size 5 1 v3 (n' + 1) (msgL f len T (n' + 1)) := by
        rw [msgL_succ]
        have e : msg f len T n' = 0 := by
          unfold msg
          rw [if_neg (by omega), if_neg (by omega), if_pos (by omega)]
        rw [e]
        exact own3
      have hvl : vlen v3 = n' + 1 := by
        obtain ⟨_, ⟨_, hz⟩ | ⟨g3, cap3, cur3, hv3, _⟩⟩ := own4
        · omega
        · rw [hv3]; rfl
      clear grow3 own3 hown hb
      go_wp2
      go_roundw
      case rel => exact ⟨n' + 1, by omega, by omega, own4, hb3⟩
      case measure =>
        rw [hvl]
        show T - (n' + 1) < T - n'
        omega
end Go.Proofs.YtpkbfljoakodoaaDoor.S2
