/- The walk of the document's own block: one further chunk. -/
import Derived.Test.YtppgidmeeaodkaaGreatDoorS2RefBlock
namespace Go.Proofs.YtppgidmeeaodkaaGreatDoor.S2
set_option maxRecDepth 20000
open Go.RowKit Num

theorem results22 : Tryz.f147.results = #[.cell 6 199] := by kernel_rfl
theorem St.arr_info45 (s : St) : (Tryz.prog.info? 199).map (·.size) = some s.arr.size := info45

/-- A round's numbers, as the document's text comes to them. -/
theorem rnd_arr (v : St) (x y : Int) : (rnd v ((x + y) % 4294967296)).arr = #[.int .u32 ((v.h + bits .xor .u32 (bits .xor .u32 (rot v.e 6) (rot v.e 11)) (rot v.e 25) + bits .xor .u32 (bits .and .u32 v.e v.f) (bits .and .u32 (bits .xor .u32 IntKind.u32.max v.e) v.g) + x + y + (bits .xor .u32 (bits .xor .u32 (rot v.a 2) (rot v.a 13)) (rot v.a 22) + bits .xor .u32 (bits .xor .u32 (bits .and .u32 v.a v.b) (bits .and .u32 v.a v.c)) (bits .and .u32 v.b v.c))) % 4294967296), .int .u32 v.a, .int .u32 v.b, .int .u32 v.c, .int .u32 ((v.d + (v.h + bits .xor .u32 (bits .xor .u32 (rot v.e 6) (rot v.e 11)) (rot v.e 25) + bits .xor .u32 (bits .and .u32 v.e v.f) (bits .and .u32 (bits .xor .u32 IntKind.u32.max v.e) v.g) + x + y)) % 4294967296), .int .u32 v.e, .int .u32 v.f, .int .u32 v.g] := by
  simp only [St.arr, rnd, rot3, chs, maj]
  have e1 : ∀ h X C Y : Int, (h + X + C + (x + y) % 4294967296 + Y) % 4294967296 = (h + X + C + x + y + Y) % 4294967296 := fun h X C Y => by omega
  have e2 : ∀ d h X C : Int, (d + (h + X + C + (x + y) % 4294967296)) % 4294967296 = (d + (h + X + C + x + y)) % 4294967296 := fun d h X C => by omega
  rw [e1, e2]

/-- What the loop of the rounds keeps. -/
structure Br (w0 : World) (SA : Array Value) (gk : Nat) (m : Nat → Int) (v : St) (wr : World) : Prop where
  h : Row wr w0.heap.size SA 199
  r : Row wr (w0.heap.size + 1) zst.arr 199
  w : Row wr (w0.heap.size + 1 + 1) (ar4 (sc m) 64) 258
  x : Row wr (w0.heap.size + 1 + 1 + 1) v.arr 199
  k : Row wr gk (ar4 kc 64) 198
  kn : gk < w0.heap.size
  old : Below w0.heap.size w0 wr
theorem Br.drew {w0 wr : World} {SA : Array Value} {gk : Nat} {m : Nat → Int} {v : St} (hB : Br w0 SA gk m v wr) : Br w0 SA gk m v wr.drew := ⟨hB.h, hB.r, hB.w, hB.x, hB.k, hB.kn, hB.old.drew⟩
theorem Br.next {w0 wr : World} {SA : Array Value} {gk : Nat} {m : Nat → Int} {v v' : St} (hB : Br w0 SA gk m v wr) : Br w0 SA gk m v' (wr.setRow (w0.heap.size + 1 + 1 + 1) v'.arr) := by
  have := hB.kn
  exact ⟨hB.h.other (by omega), hB.r.other (by omega), hB.w.other (by omega), hB.x.setRow, hB.k.other (by omega), hB.kn, below_setRow hB.old (by omega) _⟩

/-- What the loops of the words keep. -/
structure Bl (w0 : World) (SA : Array Value) (m : Nat → Int) (k : Nat) (wr : World) : Prop where
  h : Row wr w0.heap.size SA 199
  r : Row wr (w0.heap.size + 1) zst.arr 199
  w : Row wr (w0.heap.size + 1 + 1) (ar4 (uptoW (sc m) k) 64) 258
  old : Below w0.heap.size w0 wr
  n : wr.heap.size = w0.heap.size + 1 + 1 + 1
theorem Bl.next {w0 wr : World} {SA : Array Value} {m : Nat → Int} {k : Nat} (hB : Bl w0 SA m k wr) (v : Int) (hv : sc m k = v) : Bl w0 SA m (k + 1) (wr.setCell ⟨w0.heap.size + 1 + 1, k, none⟩ (.int .u32 v)) := by
  refine ⟨hB.h.setCell_other (by omega) _, hB.r.setCell_other (by omega) _, ?_, hB.old.setCell (by simp; omega) _, by simpa using hB.n⟩
  have h := hB.w.setCell (i := k) (.int .u32 v)
  rw [uptoW_next _ _ _ _ hv] at h
  exact h
theorem Bl.drew {w0 wr : World} {SA : Array Value} {m : Nat → Int} {k : Nat} (hB : Bl w0 SA m k wr) : Bl w0 SA m k wr.drew := ⟨hB.h, hB.r, hB.w, hB.old.drew, hB.n⟩

set_option maxHeartbeats 2000000 in
set_option maxRecDepth 20000 in
theorem block_any (s : St) (hok : s.ok) (b off cap gk : Nat) (m : Nat → Int) (w : World) (hK : Row w gk (ar4 kc 64) 198) (hcap : 64 ≤ cap) (hcap' : cap ≤ 9223372036854775807) (hcell : ∀ i, i < 64 → w.cell? ⟨b, off + i, none⟩ = some (.int .u8 (m i))) (hm : ∀ i, 0 ≤ m i ∧ m i < 256) :
    Calls Tryz.prog 147 #[.agg s.arr, .slice (some ⟨b, off, none⟩) 64 cap, .slice (some ⟨gk, 0, none⟩) 64 64] w fun e w' => e = .returned (.agg (ovr m s).arr) ∧ Below w.heap.size w w' := by
  obtain ⟨SA, hSA⟩ : ∃ SA, SA = s.arr := ⟨_, rfl⟩
  have hS8 := s.arr_info45
  have hSs : SA.size = 8 := by rw [hSA]; rfl
  have hSo : SA.all (·.oneCell') = true := by rw [hSA]; exact s.arr_one
  rw [← hSA] at hS8 ⊢
  have HSA : Hid _ := hSA
  clear hSA
  obtain ⟨Z, hZ⟩ : ∃ Z, Z = zeros64 := ⟨_, rfl⟩
  have hZa : Z = ar4 (uptoW (sc m) 0) 64 := by rw [hZ]; exact zeros64_ar4 _
  unfold zeros64 at hZ
  have hB0 : Bl w SA m 0 (((w.alloc (.cells SA 199)).alloc (.cells zst.arr 199)).alloc (.cells Z 258)) := by
    refine ⟨((Row.new w SA 199).alloc _).alloc _, ?_, ?_, (((Below.refl _ _).alloc (Nat.le_refl _) _).alloc (by simp) _).alloc (by simp; omega) _, by simp⟩
    · have h := Row.new (w.alloc (.cells SA 199)) zst.arr 199
      rw [World.size_alloc] at h
      exact h.alloc _
    · have h := Row.new ((w.alloc (.cells SA 199)).alloc (.cells zst.arr 199)) Z 258
      rw [World.size_alloc, World.size_alloc] at h
      rw [← hZa]
      exact h
  have HC : Hid _ := hcell
  have HK : Hid (Row w gk (ar4 kc 64) 198) := hK
  clear hcell hK hZa
  go_enter Tryz.func147, Tryz.ntmps147
  go_wp2
  rw [← hZ]
  clear hZ
  rw [show (#[Value.int IntKind.u32 0, Value.int IntKind.u32 0, Value.int IntKind.u32 0, Value.int IntKind.u32 0, Value.int IntKind.u32 0, Value.int IntKind.u32 0, Value.int IntKind.u32 0, Value.int IntKind.u32 0] : Array Value) = zst.arr from rfl]
  generalize ((w.alloc (.cells SA 199)).alloc (.cells zst.arr 199)).alloc (.cells Z 258) = W0 at *
  go_loopw [8] (fun i wr => ∃ k : Nat, k ≤ 16 ∧ i = .int .i64 k ∧ Bl w SA m k wr) (fun i _ => 16 - (intOf i).toNat)
  case atStart => exact ⟨0, Nat.zero_le _, rfl, hB0⟩
  case round =>
    clear hB0
    obtain ⟨k, hk, rfl, hB⟩ := hrel
    by_cases hlt : k < 16
    · have hnc : ¬ cap = 4 * k := by omega
      have hnb : ∀ i, i < 4 → wr.cell? ⟨b, off + 4 * k + i, none⟩ = some (.int .u8 (m (4 * k + i))) := fun i hi => by
        have h := HC.out (4 * k + i) (by omega)
        rw [show off + 4 * k + i = off + (4 * k + i) by omega, hB.old.cell (p := ⟨b, off + (4 * k + i), none⟩) (World.block_lt_of_cell? _ _ h), h]
      have HN := refNumber_any b (off + 4 * k) 4 (cap - 4 * k) (fun j => m (4 * k + j)) wr (by decide) (by decide) hnb (fun i => hm _)
      have hwb := word_bd m hm k
      have HV : Hid (num (fun j => m (4 * k + j)) 4 = word m k) := rfl
      rw [HV.out] at HN
      generalize hV : word m k = V at *
      have hc := hB.w.cell k
      rw [ar4_at _ _ _ (by omega)] at hc
      have hz := hB.w.frozen k
      clear hnb HV
      go_wp2_with fail
      refine HN.mono ?_
      rintro e w1 ⟨rfl, hw1⟩
      subst hw1
      clear HN
      have hVV : V % 4294967296 = V := Int.emod_eq_of_lt hwb.1 hwb.2
      go_wp2
      go_roundw
      case rel => exact ⟨k + 1, by omega, by go_num, hB.next V ((sc_low m k hlt).trans hV)⟩
      case measure => simp [intOf]; omega
    · obtain rfl : k = 16 := by omega
      go_wp2
      go_loopw [11] (fun i wx => ∃ k : Nat, 16 ≤ k ∧ k ≤ 64 ∧ i = .int .i64 k ∧ Bl w SA m k wx) (fun i _ => 64 - (intOf i).toNat)
      case atStart => exact ⟨16, Nat.le_refl _, by decide, rfl, hB⟩
      case round =>
        clear hB
        obtain ⟨k, hk16, hk, rfl, hB⟩ := hrel
        by_cases hlt : k < 64
        · obtain ⟨i2, h2⟩ : ∃ i2, i2 = k - 2 := ⟨_, rfl⟩
          obtain ⟨i7, h7⟩ : ∃ i7, i7 = k - 7 := ⟨_, rfl⟩
          obtain ⟨i15, h15⟩ : ∃ i15, i15 = k - 15 := ⟨_, rfl⟩
          obtain ⟨i16, h16⟩ : ∃ i16, i16 = k - 16 := ⟨_, rfl⟩
          have c15 := hB.w.cell i15
          have c2 := hB.w.cell i2
          have c7 := hB.w.cell i7
          have c16 := hB.w.cell i16
          rw [ar4_at _ _ _ (by omega), uptoW, if_pos (by omega)] at c15 c2 c7 c16
          have hc := hB.w.cell k
          rw [ar4_at _ _ _ (by omega)] at hc
          have hz := hB.w.frozen k
          have b2 := sc_bd m hm i2
          have b15 := sc_bd m hm i15
          have x2 : IntKind.i64.wrap ((k : Int) - 2) = (i2 : Int) := by rw [IntKind.wrap_i64]; omega
          have x7 : IntKind.i64.wrap ((k : Int) - 7) = (i7 : Int) := by rw [IntKind.wrap_i64]; omega
          have x15 : IntKind.i64.wrap ((k : Int) - 15) = (i15 : Int) := by rw [IntKind.wrap_i64]; omega
          have x16 : IntKind.i64.wrap ((k : Int) - 16) = (i16 : Int) := by rw [IntKind.wrap_i64]; omega
          have l2 : (i2 : Int) < 64 := by omega
          have l7 : (i7 : Int) < 64 := by omega
          have l15 : (i15 : Int) < 64 := by omega
          have l16 : (i16 : Int) < 64 := by omega
          have lk : (k : Int) < 64 := by omega
          have HI : Hid (i2 = k - 2 ∧ i7 = k - 7 ∧ i15 = k - 15 ∧ i16 = k - 16) := ⟨h2, h7, h15, h16⟩
          have n2 : i2 ≠ k := by omega
          have n7 : i7 ≠ k := by omega
          have n15 : i15 ≠ k := by omega
          have n16 : i16 ≠ k := by omega
          have HBB : Hid _ := hB
          have B2 : Hid _ := b2
          have B15 : Hid _ := b15
          have HM : Hid _ := hm
          have HR : Hid (16 ≤ k ∧ k < 64) := ⟨hk16, hlt⟩
          have HO : Hid _ := hok
          have HS8 : Hid _ := hS8
          have HSs : Hid _ := hSs
          have HSo : Hid _ := hSo
          clear h2 h7 h15 h16 hB b2 b15 hm hok hcap hcap' hS8 hSs hSo hk16 hk hlt
          go_wp2
          refine wp_region_still_tail 35 (by kernel_rfl) (by kernel_rfl) ?_
          simp only [List.take_succ_cons, List.take_zero, List.drop_succ_cons, List.drop_zero]
          have d2 : ({ wr with drawn := wr.drawn + 1 } : World).cell? ⟨w.heap.size + 1 + 1, i2, none⟩ = some (.int .u32 (sc m i2)) := c2
          have d7 : ({ wr with drawn := wr.drawn + 1 } : World).cell? ⟨w.heap.size + 1 + 1, i7, none⟩ = some (.int .u32 (sc m i7)) := c7
          have d15 : ({ wr with drawn := wr.drawn + 1 } : World).cell? ⟨w.heap.size + 1 + 1, i15, none⟩ = some (.int .u32 (sc m i15)) := c15
          have d16 : ({ wr with drawn := wr.drawn + 1 } : World).cell? ⟨w.heap.size + 1 + 1, i16, none⟩ = some (.int .u32 (sc m i16)) := c16
          have dk : ({ wr with drawn := wr.drawn + 1 } : World).cell? ⟨w.heap.size + 1 + 1, k, none⟩ = some (.int .u32 (uptoW (sc m) k k)) := hc
          have dz : ({ wr with drawn := wr.drawn + 1 } : World).frozen? ⟨w.heap.size + 1 + 1, k, none⟩ = false := hz
          have HB1 : Hid (Bl w SA m k { wr with drawn := wr.drawn + 1 }) := HBB.out.drew
          clear c2 c7 c15 c16 hc hz HBB
          generalize ({ wr with drawn := wr.drawn + 1 } : World) = wd at *
          refine s_move _ rfl (by rfl) ?_
          simp only [Act.put, List.setIfInBounds_toArray, List.set_cons_zero, List.set_cons_succ]
          refine s_move _ rfl (by rfl) ?_
          simp only [Act.put, List.setIfInBounds_toArray, List.set_cons_zero, List.set_cons_succ]
          refine s_value ?_ (by rfl) ?_ ?_
          rotate_left
          · go_simp
            with_reducible rfl
          simp only [Act.put, List.setIfInBounds_toArray, List.set_cons_zero, List.set_cons_succ]
          refine s_value ?_ (by rfl) ?_ ?_
          rotate_left
          · go_simp
            with_reducible rfl
          simp only [Act.put, List.setIfInBounds_toArray, List.set_cons_zero, List.set_cons_succ]
          refine s_value ?_ (by rfl) ?_ ?_
          rotate_left
          · go_simp
            with_reducible rfl
          simp only [Act.put, List.setIfInBounds_toArray, List.set_cons_zero, List.set_cons_succ]
          refine s_call (.int .u32 (bits .xor .u32 (rot (sc m i2) 17) (rot (sc m i2) 19))) (by rfl) 198 #[.int .u32 (sc m i2), .int .i64 17, .int .i64 19] (by go_simp) (rot_any (sc m i2) 17 19 _ (by decide) (by decide) (by decide) (by decide) B2.out) ?_
          simp only [Act.put, List.setIfInBounds_toArray, List.set_cons_zero, List.set_cons_succ]
          refine s_move _ rfl (by rfl) ?_
          simp only [Act.put, List.setIfInBounds_toArray, List.set_cons_zero, List.set_cons_succ]
          refine s_value ?_ (by rfl) ?_ ?_
          rotate_left
          · go_simp
            with_reducible rfl
          simp only [Act.put, List.setIfInBounds_toArray, List.set_cons_zero, List.set_cons_succ]
          refine s_value ?_ (by rfl) ?_ ?_
          rotate_left
          · go_simp
            with_reducible rfl
          simp only [Act.put, List.setIfInBounds_toArray, List.set_cons_zero, List.set_cons_succ]
          refine s_value ?_ (by rfl) ?_ ?_
          rotate_left
          · go_simp
            with_reducible rfl
          simp only [Act.put, List.setIfInBounds_toArray, List.set_cons_zero, List.set_cons_succ]
          refine s_value ?_ (by rfl) ?_ ?_
          rotate_left
          · go_simp
            with_reducible rfl
          simp only [Act.put, List.setIfInBounds_toArray, List.set_cons_zero, List.set_cons_succ]
          refine s_value ?_ (by rfl) ?_ ?_
          rotate_left
          · go_simp
            with_reducible rfl
          simp only [Act.put, List.setIfInBounds_toArray, List.set_cons_zero, List.set_cons_succ]
          refine s_move _ rfl (by rfl) ?_
          simp only [Act.put, List.setIfInBounds_toArray, List.set_cons_zero, List.set_cons_succ]
          refine s_value ?_ (by rfl) ?_ ?_
          rotate_left
          · go_simp
            with_reducible rfl
          simp only [Act.put, List.setIfInBounds_toArray, List.set_cons_zero, List.set_cons_succ]
          refine s_value ?_ (by rfl) ?_ ?_
          rotate_left
          · go_simp
            with_reducible rfl
          simp only [Act.put, List.setIfInBounds_toArray, List.set_cons_zero, List.set_cons_succ]
          refine s_value ?_ (by rfl) ?_ ?_
          rotate_left
          · go_simp
            with_reducible rfl
          simp only [Act.put, List.setIfInBounds_toArray, List.set_cons_zero, List.set_cons_succ]
          refine s_value ?_ (by rfl) ?_ ?_
          rotate_left
          · go_simp
            with_reducible rfl
          simp only [Act.put, List.setIfInBounds_toArray, List.set_cons_zero, List.set_cons_succ]
          refine s_move _ rfl (by rfl) ?_
          simp only [Act.put, List.setIfInBounds_toArray, List.set_cons_zero, List.set_cons_succ]
          refine s_value ?_ (by rfl) ?_ ?_
          rotate_left
          · go_simp
            with_reducible rfl
          simp only [Act.put, List.setIfInBounds_toArray, List.set_cons_zero, List.set_cons_succ]
          refine s_value ?_ (by rfl) ?_ ?_
          rotate_left
          · go_simp
            with_reducible rfl
          simp only [Act.put, List.setIfInBounds_toArray, List.set_cons_zero, List.set_cons_succ]
          refine s_value ?_ (by rfl) ?_ ?_
          rotate_left
          · go_simp
            with_reducible rfl
          simp only [Act.put, List.setIfInBounds_toArray, List.set_cons_zero, List.set_cons_succ]
          refine s_call (.int .u32 (bits .xor .u32 (rot (sc m i15) 7) (rot (sc m i15) 18))) (by rfl) 198 #[.int .u32 (sc m i15), .int .i64 7, .int .i64 18] (by go_simp) (rot_any (sc m i15) 7 18 _ (by decide) (by decide) (by decide) (by decide) B15.out) ?_
          simp only [Act.put, List.setIfInBounds_toArray, List.set_cons_zero, List.set_cons_succ]
          refine s_move _ rfl (by rfl) ?_
          simp only [Act.put, List.setIfInBounds_toArray, List.set_cons_zero, List.set_cons_succ]
          refine s_value ?_ (by rfl) ?_ ?_
          rotate_left
          · go_simp
            with_reducible rfl
          simp only [Act.put, List.setIfInBounds_toArray, List.set_cons_zero, List.set_cons_succ]
          refine s_value ?_ (by rfl) ?_ ?_
          rotate_left
          · go_simp
            with_reducible rfl
          simp only [Act.put, List.setIfInBounds_toArray, List.set_cons_zero, List.set_cons_succ]
          refine s_value ?_ (by rfl) ?_ ?_
          rotate_left
          · go_simp
            with_reducible rfl
          simp only [Act.put, List.setIfInBounds_toArray, List.set_cons_zero, List.set_cons_succ]
          refine s_value ?_ (by rfl) ?_ ?_
          rotate_left
          · go_simp
            with_reducible rfl
          simp only [Act.put, List.setIfInBounds_toArray, List.set_cons_zero, List.set_cons_succ]
          refine s_value ?_ (by rfl) ?_ ?_
          rotate_left
          · go_simp
            with_reducible rfl
          simp only [Act.put, List.setIfInBounds_toArray, List.set_cons_zero, List.set_cons_succ]
          refine s_value ?_ (by rfl) ?_ ?_
          rotate_left
          · go_simp
            with_reducible rfl
          simp only [Act.put, List.setIfInBounds_toArray, List.set_cons_zero, List.set_cons_succ]
          refine s_move _ rfl (by rfl) ?_
          simp only [Act.put, List.setIfInBounds_toArray, List.set_cons_zero, List.set_cons_succ]
          refine s_value ?_ (by rfl) ?_ ?_
          rotate_left
          · go_simp
            with_reducible rfl
          simp only [Act.put, List.setIfInBounds_toArray, List.set_cons_zero, List.set_cons_succ]
          refine s_value ?_ (by rfl) ?_ ?_
          rotate_left
          · go_simp
            with_reducible rfl
          simp only [Act.put, List.setIfInBounds_toArray, List.set_cons_zero, List.set_cons_succ]
          refine s_value ?_ (by rfl) ?_ ?_
          rotate_left
          · go_simp
            with_reducible rfl
          simp only [Act.put, List.setIfInBounds_toArray, List.set_cons_zero, List.set_cons_succ]
          refine s_value ?_ (by rfl) ?_ ?_
          rotate_left
          · go_simp
            with_reducible rfl
          simp only [Act.put, List.setIfInBounds_toArray, List.set_cons_zero, List.set_cons_succ]
          refine s_value ?_ (by rfl) ?_ ?_
          rotate_left
          · go_simp
            with_reducible rfl
          simp only [Act.put, List.setIfInBounds_toArray, List.set_cons_zero, List.set_cons_succ]
          refine wpStill_nil ?_
          go_wp2
          obtain ⟨e2, e7, e15, e16⟩ := HI.out
          have hkk := HR.out
          have h := HB1.out.next (nextW (sc m) k) (sc_high m k hkk.1)
          unfold nextW at h
          rw [← e2, ← e7, ← e15, ← e16] at h
          exact ⟨⟨k + 1, by omega, by omega, by go_num, h⟩, by simp [intOf]; omega⟩
        · obtain rfl : k = 64 := by omega
          have hW : ar4 (uptoW (sc m) 64) 64 = ar4 (sc m) 64 := ar4_congr _ _ _ (fun i hi => by simp [uptoW, hi])
          have rW := hB.w
          rw [hW] at rW
          have rH := hB.h
          have rR := hB.r
          have hold := hB.old
          have hn := hB.n
          clear hB hW
          have hkn : gk < w.heap.size := HK.out.lt
          have hBr : Br w SA gk m (rnds m s 0) (wr.alloc (.cells SA 199)) := by
            refine ⟨rH.alloc _, rR.alloc _, rW.alloc _, ?_, (HK.out.below hold hkn).alloc _, hkn, hold.alloc hold.size _⟩
            have h := Row.new wr SA 199
            rw [hn, HSA.out] at h
            rw [HSA.out]
            exact h
          go_wp2_with (first
            | refine wpList_load_row rfl 199 _ rfl _ rfl 199 SA (0, 0) _ rH Tryz.underlying199 rfl hS8 ?_
            | refine wpList_store_new rfl 199 _ _ rfl wr zst.arr SA 199 rfl (w.heap.size + 1 + 1 + 1) hn.symm rfl rfl hS8 (by rw [hSs]; rfl) hSo ?_)
          clear rH rR rW hold hn
          generalize wr.alloc (.cells SA 199) = W1 at *
          go_loopw [13] (fun i wx => ∃ k : Nat, k ≤ 64 ∧ i = .int .i64 k ∧ Br w SA gk m (rnds m s k) wx) (fun i _ => 64 - (intOf i).toNat)
          case atStart => exact ⟨0, Nat.zero_le _, rfl, hBr⟩
          case round =>
            clear hBr
            obtain ⟨k, hk, rfl, hB⟩ := hrel
            by_cases hlt : k < 64
            · have hvo := rnds_ok m s hok k
              obtain ⟨v, hv⟩ : ∃ v, v = rnds m s k := ⟨_, rfl⟩
              rw [← hv] at hB hvo
              have BE : Hid (0 ≤ v.e ∧ v.e < 4294967296) := hvo 4
              have BA : Hid (0 ≤ v.a ∧ v.a < 4294967296) := hvo 0
              have HV : Hid _ := hv
              have lk : (k : Int) < 64 := by omega
              have HR : Hid (k < 64) := hlt
              have HB0 : Hid (Br w SA gk m v wr) := hB
              have HO : Hid _ := hok
              have HM : Hid _ := hm
              have HS8 : Hid _ := hS8
              have HSs : Hid _ := hSs
              have HSo : Hid _ := hSo
              clear hB hv hvo hok hm hS8 hSs hSo hk hlt hcap hcap' hkn
              go_wp2
              have HB1 : Hid (Br w SA gk m v { wr with drawn := wr.drawn + 1 }) := HB0.out.drew
              clear HB0
              refine wp_region_still_lit (by kernel_rfl) (by kernel_rfl) ?_
              generalize ({ wr with drawn := wr.drawn + 1 } : World) = wd at *
              obtain ⟨c0, c1, c2, c3, c4, c5, c6, c7⟩ := HB1.out.x.cells8
              have cw := HB1.out.w.cell k
              rw [ar4_at _ _ _ HR.out] at cw
              have ck := HB1.out.k.cell k
              rw [ar4_at _ _ _ HR.out] at ck
              refine s_value ?_ (by rfl) ?_ ?_
              rotate_left
              · go_simp
                with_reducible rfl
              simp only [Act.put, List.setIfInBounds_toArray, List.set_cons_zero, List.set_cons_succ]
              refine s_value ?_ (by rfl) ?_ ?_
              rotate_left
              · go_simp
                with_reducible rfl
              simp only [Act.put, List.setIfInBounds_toArray, List.set_cons_zero, List.set_cons_succ]
              refine s_value ?_ (by rfl) ?_ ?_
              rotate_left
              · go_simp
                with_reducible rfl
              simp only [Act.put, List.setIfInBounds_toArray, List.set_cons_zero, List.set_cons_succ]
              refine s_value ?_ (by rfl) ?_ ?_
              rotate_left
              · go_simp
                with_reducible rfl
              simp only [Act.put, List.setIfInBounds_toArray, List.set_cons_zero, List.set_cons_succ]
              refine s_call (.int .u32 (bits .xor .u32 (rot v.e 6) (rot v.e 11))) (by rfl) 198 #[.int .u32 v.e, .int .i64 6, .int .i64 11] (by go_simp) (rot_any v.e 6 11 _ (by decide) (by decide) (by decide) (by decide) BE.out) ?_
              simp only [Act.put, List.setIfInBounds_toArray, List.set_cons_zero, List.set_cons_succ]
              refine s_value ?_ (by rfl) ?_ ?_
              rotate_left
              · go_simp
                with_reducible rfl
              simp only [Act.put, List.setIfInBounds_toArray, List.set_cons_zero, List.set_cons_succ]
              refine s_value ?_ (by rfl) ?_ ?_
              rotate_left
              · go_simp
                with_reducible rfl
              simp only [Act.put, List.setIfInBounds_toArray, List.set_cons_zero, List.set_cons_succ]
              refine s_call (.int .u32 (rot v.e 25)) (by rfl) 199 #[.int .u32 v.e, .int .i64 25] (by go_simp) (refRot_lit v.e 25 _ (by decide) (by decide) BE.out) ?_
              simp only [Act.put, List.setIfInBounds_toArray, List.set_cons_zero, List.set_cons_succ]
              refine s_value ?_ (by rfl) ?_ ?_
              rotate_left
              · go_simp
                with_reducible rfl
              simp only [Act.put, List.setIfInBounds_toArray, List.set_cons_zero, List.set_cons_succ]
              refine s_value ?_ (by rfl) ?_ ?_
              rotate_left
              · go_simp
                with_reducible rfl
              simp only [Act.put, List.setIfInBounds_toArray, List.set_cons_zero, List.set_cons_succ]
              refine s_value ?_ (by rfl) ?_ ?_
              rotate_left
              · go_simp
                with_reducible rfl
              simp only [Act.put, List.setIfInBounds_toArray, List.set_cons_zero, List.set_cons_succ]
              refine s_value ?_ (by rfl) ?_ ?_
              rotate_left
              · go_simp
                with_reducible rfl
              simp only [Act.put, List.setIfInBounds_toArray, List.set_cons_zero, List.set_cons_succ]
              refine s_value ?_ (by rfl) ?_ ?_
              rotate_left
              · go_simp
                with_reducible rfl
              simp only [Act.put, List.setIfInBounds_toArray, List.set_cons_zero, List.set_cons_succ]
              refine s_value ?_ (by rfl) ?_ ?_
              rotate_left
              · go_simp
                with_reducible rfl
              simp only [Act.put, List.setIfInBounds_toArray, List.set_cons_zero, List.set_cons_succ]
              refine s_value ?_ (by rfl) ?_ ?_
              rotate_left
              · go_simp
                with_reducible rfl
              simp only [Act.put, List.setIfInBounds_toArray, List.set_cons_zero, List.set_cons_succ]
              refine s_value ?_ (by rfl) ?_ ?_
              rotate_left
              · go_simp
                with_reducible rfl
              simp only [Act.put, List.setIfInBounds_toArray, List.set_cons_zero, List.set_cons_succ]
              refine s_value ?_ (by rfl) ?_ ?_
              rotate_left
              · go_simp
                with_reducible rfl
              simp only [Act.put, List.setIfInBounds_toArray, List.set_cons_zero, List.set_cons_succ]
              refine s_value ?_ (by rfl) ?_ ?_
              rotate_left
              · go_simp
                with_reducible rfl
              simp only [Act.put, List.setIfInBounds_toArray, List.set_cons_zero, List.set_cons_succ]
              refine s_value ?_ (by rfl) ?_ ?_
              rotate_left
              · go_simp
                with_reducible rfl
              simp only [Act.put, List.setIfInBounds_toArray, List.set_cons_zero, List.set_cons_succ]
              refine s_value ?_ (by rfl) ?_ ?_
              rotate_left
              · go_simp
                with_reducible rfl
              simp only [Act.put, List.setIfInBounds_toArray, List.set_cons_zero, List.set_cons_succ]
              refine s_value ?_ (by rfl) ?_ ?_
              rotate_left
              · go_simp
                with_reducible rfl
              simp only [Act.put, List.setIfInBounds_toArray, List.set_cons_zero, List.set_cons_succ]
              refine s_value ?_ (by rfl) ?_ ?_
              rotate_left
              · go_simp
                with_reducible rfl
              simp only [Act.put, List.setIfInBounds_toArray, List.set_cons_zero, List.set_cons_succ]
              refine s_value ?_ (by rfl) ?_ ?_
              rotate_left
              · go_simp
                with_reducible rfl
              simp only [Act.put, List.setIfInBounds_toArray, List.set_cons_zero, List.set_cons_succ]
              refine s_move _ rfl (by rfl) ?_
              simp only [Act.put, List.setIfInBounds_toArray, List.set_cons_zero, List.set_cons_succ]
              refine s_move _ rfl (by rfl) ?_
              simp only [Act.put, List.setIfInBounds_toArray, List.set_cons_zero, List.set_cons_succ]
              refine s_value ?_ (by rfl) ?_ ?_
              rotate_left
              · go_simp
                with_reducible rfl
              simp only [Act.put, List.setIfInBounds_toArray, List.set_cons_zero, List.set_cons_succ]
              refine s_value ?_ (by rfl) ?_ ?_
              rotate_left
              · go_simp
                with_reducible rfl
              simp only [Act.put, List.setIfInBounds_toArray, List.set_cons_zero, List.set_cons_succ]
              refine s_value ?_ (by rfl) ?_ ?_
              rotate_left
              · go_simp
                with_reducible rfl
              simp only [Act.put, List.setIfInBounds_toArray, List.set_cons_zero, List.set_cons_succ]
              refine s_move _ rfl (by rfl) ?_
              simp only [Act.put, List.setIfInBounds_toArray, List.set_cons_zero, List.set_cons_succ]
              refine s_value ?_ (by rfl) ?_ ?_
              rotate_left
              · go_simp
                with_reducible rfl
              simp only [Act.put, List.setIfInBounds_toArray, List.set_cons_zero, List.set_cons_succ]
              refine s_value ?_ (by rfl) ?_ ?_
              rotate_left
              · go_simp
                with_reducible rfl
              simp only [Act.put, List.setIfInBounds_toArray, List.set_cons_zero, List.set_cons_succ]
              refine s_value ?_ (by rfl) ?_ ?_
              rotate_left
              · go_simp
                with_reducible rfl
              simp only [Act.put, List.setIfInBounds_toArray, List.set_cons_zero, List.set_cons_succ]
              refine s_value ?_ (by rfl) ?_ ?_
              rotate_left
              · go_simp
                with_reducible rfl
              simp only [Act.put, List.setIfInBounds_toArray, List.set_cons_zero, List.set_cons_succ]
              refine wpStill_nil ?_
              clear c0 c1 c2 c3 c4 c5 c6 c7 cw ck
              go_wp2
              have HB2 : Hid (Br w SA gk m v { wd with drawn := wd.drawn + 1 }) := HB1.out.drew
              clear HB1
              refine wp_region_still_lit (by kernel_rfl) (by kernel_rfl) ?_
              generalize ({ wd with drawn := wd.drawn + 1 } : World) = we at *
              obtain ⟨c0, c1, c2, c3, c4, c5, c6, c7⟩ := HB2.out.x.cells8
              refine s_value ?_ (by rfl) ?_ ?_
              rotate_left
              · go_simp
                with_reducible rfl
              simp only [Act.put, List.setIfInBounds_toArray, List.set_cons_zero, List.set_cons_succ]
              refine s_value ?_ (by rfl) ?_ ?_
              rotate_left
              · go_simp
                with_reducible rfl
              simp only [Act.put, List.setIfInBounds_toArray, List.set_cons_zero, List.set_cons_succ]
              refine s_call (.int .u32 (bits .xor .u32 (rot v.a 2) (rot v.a 13))) (by rfl) 198 #[.int .u32 v.a, .int .i64 2, .int .i64 13] (by go_simp) (rot_any v.a 2 13 _ (by decide) (by decide) (by decide) (by decide) BA.out) ?_
              simp only [Act.put, List.setIfInBounds_toArray, List.set_cons_zero, List.set_cons_succ]
              refine s_value ?_ (by rfl) ?_ ?_
              rotate_left
              · go_simp
                with_reducible rfl
              simp only [Act.put, List.setIfInBounds_toArray, List.set_cons_zero, List.set_cons_succ]
              refine s_value ?_ (by rfl) ?_ ?_
              rotate_left
              · go_simp
                with_reducible rfl
              simp only [Act.put, List.setIfInBounds_toArray, List.set_cons_zero, List.set_cons_succ]
              refine s_call (.int .u32 (rot v.a 22)) (by rfl) 199 #[.int .u32 v.a, .int .i64 22] (by go_simp) (refRot_lit v.a 22 _ (by decide) (by decide) BA.out) ?_
              simp only [Act.put, List.setIfInBounds_toArray, List.set_cons_zero, List.set_cons_succ]
              refine s_value ?_ (by rfl) ?_ ?_
              rotate_left
              · go_simp
                with_reducible rfl
              simp only [Act.put, List.setIfInBounds_toArray, List.set_cons_zero, List.set_cons_succ]
              refine s_value ?_ (by rfl) ?_ ?_
              rotate_left
              · go_simp
                with_reducible rfl
              simp only [Act.put, List.setIfInBounds_toArray, List.set_cons_zero, List.set_cons_succ]
              refine s_value ?_ (by rfl) ?_ ?_
              rotate_left
              · go_simp
                with_reducible rfl
              simp only [Act.put, List.setIfInBounds_toArray, List.set_cons_zero, List.set_cons_succ]
              refine s_value ?_ (by rfl) ?_ ?_
              rotate_left
              · go_simp
                with_reducible rfl
              simp only [Act.put, List.setIfInBounds_toArray, List.set_cons_zero, List.set_cons_succ]
              refine s_value ?_ (by rfl) ?_ ?_
              rotate_left
              · go_simp
                with_reducible rfl
              simp only [Act.put, List.setIfInBounds_toArray, List.set_cons_zero, List.set_cons_succ]
              refine s_value ?_ (by rfl) ?_ ?_
              rotate_left
              · go_simp
                with_reducible rfl
              simp only [Act.put, List.setIfInBounds_toArray, List.set_cons_zero, List.set_cons_succ]
              refine s_value ?_ (by rfl) ?_ ?_
              rotate_left
              · go_simp
                with_reducible rfl
              simp only [Act.put, List.setIfInBounds_toArray, List.set_cons_zero, List.set_cons_succ]
              refine s_value ?_ (by rfl) ?_ ?_
              rotate_left
              · go_simp
                with_reducible rfl
              simp only [Act.put, List.setIfInBounds_toArray, List.set_cons_zero, List.set_cons_succ]
              refine s_value ?_ (by rfl) ?_ ?_
              rotate_left
              · go_simp
                with_reducible rfl
              simp only [Act.put, List.setIfInBounds_toArray, List.set_cons_zero, List.set_cons_succ]
              refine s_value ?_ (by rfl) ?_ ?_
              rotate_left
              · go_simp
                with_reducible rfl
              simp only [Act.put, List.setIfInBounds_toArray, List.set_cons_zero, List.set_cons_succ]
              refine s_value ?_ (by rfl) ?_ ?_
              rotate_left
              · go_simp
                with_reducible rfl
              simp only [Act.put, List.setIfInBounds_toArray, List.set_cons_zero, List.set_cons_succ]
              refine s_value ?_ (by rfl) ?_ ?_
              rotate_left
              · go_simp
                with_reducible rfl
              simp only [Act.put, List.setIfInBounds_toArray, List.set_cons_zero, List.set_cons_succ]
              refine s_value ?_ (by rfl) ?_ ?_
              rotate_left
              · go_simp
                with_reducible rfl
              simp only [Act.put, List.setIfInBounds_toArray, List.set_cons_zero, List.set_cons_succ]
              refine s_value ?_ (by rfl) ?_ ?_
              rotate_left
              · go_simp
                with_reducible rfl
              simp only [Act.put, List.setIfInBounds_toArray, List.set_cons_zero, List.set_cons_succ]
              refine s_value ?_ (by rfl) ?_ ?_
              rotate_left
              · go_simp
                with_reducible rfl
              simp only [Act.put, List.setIfInBounds_toArray, List.set_cons_zero, List.set_cons_succ]
              refine s_value ?_ (by rfl) ?_ ?_
              rotate_left
              · go_simp
                with_reducible rfl
              simp only [Act.put, List.setIfInBounds_toArray, List.set_cons_zero, List.set_cons_succ]
              refine s_value ?_ (by rfl) ?_ ?_
              rotate_left
              · go_simp
                with_reducible rfl
              simp only [Act.put, List.setIfInBounds_toArray, List.set_cons_zero, List.set_cons_succ]
              refine s_value ?_ (by rfl) ?_ ?_
              rotate_left
              · go_simp
                with_reducible rfl
              simp only [Act.put, List.setIfInBounds_toArray, List.set_cons_zero, List.set_cons_succ]
              refine s_value ?_ (by rfl) ?_ ?_
              rotate_left
              · go_simp
                with_reducible rfl
              simp only [Act.put, List.setIfInBounds_toArray, List.set_cons_zero, List.set_cons_succ]
              refine s_value ?_ (by rfl) ?_ ?_
              rotate_left
              · go_simp
                with_reducible rfl
              simp only [Act.put, List.setIfInBounds_toArray, List.set_cons_zero, List.set_cons_succ]
              refine wpStill_nil ?_
              go_wp2_with (refine wpList_store_row rfl 199 _ _ rfl (w.heap.size + 1 + 1 + 1) _ rfl rfl 199 v.arr HB2.out.x ?hi ?hold ?h1 ?_)
              case hi => exact info45
              case hold => rfl
              case h1 => simp [Value.oneCell']
              have hN := HB2.out.next (v' := rnd v ((kc k + sc m k) % 4294967296))
              rw [rnd_arr] at hN
              refine ⟨⟨k + 1, HR.out, by go_num, ?_⟩, by simp [intOf]; omega⟩
              simp only [rnds]
              rw [← HV.out]
              exact hN
            · obtain rfl : k = 64 := by omega
              obtain ⟨v, hv⟩ : ∃ v, v = rnds m s 64 := ⟨_, rfl⟩
              have hF : ar4 (added s v 8) 8 = (ovr m s).arr := by
                unfold ovr
                rw [St.of_arr, ← hv]
                exact ar4_congr _ _ _ (fun i hi => by simp [added, hi])
              have hS0 : SA = ar4 (added s v 0) 8 := by
                rw [HSA.out, St.arr_at]
                exact ar4_congr _ _ _ (fun i _ => by simp [added])
              rw [← hv] at hB
              have h0 := hB.h
              have h1 := hB.r
              have h2 := hB.x
              have h3 := hB.old
              rw [hS0] at h0
              rw [St.arr_at] at h2
              have HF : Hid _ := hF
              clear hB hv hS0 hF
              go_wp2
              go_loopw [16] (fun i wx => ∃ j : Nat, j ≤ 8 ∧ i = .int .i64 j ∧ Row wx w.heap.size (ar4 (added s v j) 8) 199 ∧ Row wx (w.heap.size + 1) zst.arr 199 ∧ Row wx (w.heap.size + 1 + 1 + 1) (ar4 v.at 8) 199 ∧ Below w.heap.size w wx) (fun i _ => 8 - (intOf i).toNat)
              case atStart => exact ⟨0, Nat.zero_le _, rfl, h0, h1, h2, h3⟩
              case round =>
                clear h0 h1 h2 h3
                obtain ⟨j, hj, rfl, h0, h1, h2, h3⟩ := hrel
                by_cases hjl : j < 8
                · have c0 := h0.cell j
                  have c2 := h2.cell j
                  rw [ar4_at _ _ _ hjl] at c0 c2
                  have e0 : added s v j j = s.at j := by simp [added]
                  rw [e0] at c0
                  have z := h0.frozen j
                  clear e0
                  go_wp2
                  go_region
                  go_wp2
                  refine ⟨⟨j + 1, by omega, by go_num, ?_, (h1.setCell_other (by omega) _).drew, (h2.setCell_other (by omega) _).drew, (h3.setCell (by simp) _).drew⟩, by simp [intOf]; omega⟩
                  have h := (h0.setCell (i := j) (.int .u32 ((s.at j + v.at j) % 4294967296))).drew
                  rw [added_next] at h
                  exact h
                · obtain rfl : j = 8 := by omega
                  rw [HF.out] at h0
                  have hi := (ovr m s).arr_info45
                  have ho := (ovr m s).arr_one
                  go_wp2_with (first | refine wpList_load_row rfl 199 _ rfl _ rfl 199 (ovr m s).arr (0, 0) _ h0 Tryz.underlying199 rfl hi ?_ | refine wpList_store_row rfl 199 _ _ rfl (w.heap.size + 1) (ovr m s).arr rfl rfl 199 zst.arr h1 hi rfl ho ?_)
                  refine bodyPost_ret (results_cell_row results22 _ _ (w.heap.size + 1) 199 _ (0, 0) _ rfl h1.setRow Tryz.underlying199 rfl hi) rfl ⟨rfl, below_setRow h3 (by omega) _⟩
end Go.Proofs.YtppgidmeeaodkaaGreatDoor.S2
