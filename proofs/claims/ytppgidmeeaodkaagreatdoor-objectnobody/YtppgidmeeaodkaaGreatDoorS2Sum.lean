/- The walk of digest.Sum. -/
import Derived.Test.YtppgidmeeaodkaaGreatDoorS2Msg
import Derived.Test.YtppgidmeeaodkaaGreatDoorS2Kit
namespace Go.Proofs.YtppgidmeeaodkaaGreatDoor.S2
set_option maxRecDepth 20000
open Go.RowKit Num

/-- The table of the first eight numbers lies in block 0. -/
def FTab (w : World) : Prop := ∃ t fr, w.heap[0]? = some (.cells st0.arr t fr)
theorem FTab.below {B : Nat} {w w' : World} (h : FTab w) (hb : Below B w w') (hB : 0 < B) : FTab w' := by
  obtain ⟨t, fr, h⟩ := h
  exact ⟨t, fr, (hb.block 0 hB).trans h⟩
theorem FTab.pos {w : World} (h : FTab w) : 0 < w.heap.size := by
  obtain ⟨t, fr, h⟩ := h
  exact (Array.getElem?_eq_some_iff.1 h).1
theorem info45 : (Tryz.prog.info? 199).map (·.size) = some 8 := by kernel_rfl
theorem results8 : Tryz.f138.results = #[.cell 2 121] := by kernel_rfl

theorem slice_lh (b off len cap k n : Nat) (hk : k < cap) (hn : k + n ≤ cap) (l h : Int) (hl : l = k) (hh : h = k + n) (w : World) :
    (Instr.slice 36 (.slice (some ⟨b, off, none⟩) len cap) (some (.int .i64 l)) (some (.int .i64 h)) none).run Tryz.prog w = .ok (.slice (some ⟨b, off + k, none⟩) n (cap - k)) w := by
  subst hl
  obtain rfl : h = ((k + n : Nat) : Int) := by omega
  obtain ⟨i0, hi, _, hz1, _⟩ := info_parts Tryz.info5
  have e : ((k : Int) + (n : Int)).toNat = k + n := by omega
  have h0 : (0 : Int) ≤ (k : Int) + (n : Int) := by omega
  have h1 : (k : Int) + (n : Int) ≤ (cap : Int) := by omega
  have h2 : (k : Int) ≤ (k : Int) + (n : Int) := by omega
  simp [Instr.slice, run_underlying Tryz.underlying36, Instr.sliceBounds, run_sliceBound, sizeOf, typeInfo, hi, hz1, Addr.add_mid, show ¬ cap = k by omega, e, h0, h1, h2]
theorem slice_l (b off len cap k : Nat) (hk : k < cap) (hn : k ≤ len) (l : Int) (hl : l = k) (w : World) :
    (Instr.slice 36 (.slice (some ⟨b, off, none⟩) len cap) (some (.int .i64 l)) none none).run Tryz.prog w = .ok (.slice (some ⟨b, off + k, none⟩) (len - k) (cap - k)) w := by
  subst hl
  obtain ⟨i0, hi, _, hz1, _⟩ := info_parts Tryz.info5
  have h1 : (k : Int) ≤ (len : Int) := by omega
  simp [Instr.slice, run_underlying Tryz.underlying36, Instr.sliceBounds, run_sliceBound, sizeOf, typeInfo, hi, hz1, Addr.add_mid, show ¬ cap = k by omega, h1]

theorem slice_any (ad : Addr) (len cap k : Nat) (hn : k ≤ len) (l : Int) (hl : l = k) (w : World) :
    (Instr.slice 36 (.slice (some ad) len cap) (some (.int .i64 l)) none none).run Tryz.prog w = .ok (.slice (some (if cap = k then ad else ad.add k)) (len - k) (cap - k)) w := by
  subst hl
  obtain ⟨i0, hi, _, hz1, _⟩ := info_parts Tryz.info5
  have h1 : (k : Int) ≤ (len : Int) := by omega
  simp [Instr.slice, run_underlying Tryz.underlying36, Instr.sliceBounds, run_sliceBound, sizeOf, typeInfo, hi, hz1, h1]
  split <;> rfl
/-- What is left over behind the whole chunks, as a slice. -/
theorem rest_slice (a : Option Addr) (b off len cap q n : Nat) (h0 : 0 < len → a = some ⟨b, off, none⟩) (hnone : a = none → len = 0 ∧ cap = 0) (hlc : len ≤ cap) (hq : len = 64 * q + n) :
    ∃ sp sc, (∀ w : World, (Instr.slice 36 (.slice a len cap) (some (.int .i64 (64 * (q : Int)))) none none).run Tryz.prog w = .ok (.slice sp n sc) w) ∧ (0 < n → sp = some ⟨b, off + 64 * q, none⟩) := by
  cases a with
  | none =>
    obtain ⟨rfl, rfl⟩ := hnone rfl
    obtain rfl : q = 0 := by omega
    obtain rfl : n = 0 := by omega
    obtain ⟨i0, hi, _, _, _⟩ := info_parts Tryz.info5
    exact ⟨none, 0, fun w => by simp [Instr.slice, run_underlying Tryz.underlying36, Instr.sliceBounds, run_sliceBound, sizeOf, typeInfo, hi], fun h => by omega⟩
  | some ad =>
    refine ⟨_, _, fun w => by rw [slice_any ad len cap (64 * q) (by omega) (64 * (q : Int)) (by omega) w, show len - 64 * q = n by omega], fun h => ?_⟩
    have e := Option.some.inj (h0 (by omega))
    rw [if_neg (by omega), e, Addr.add_mid]

def zeros128 : Array Value := #[.int .u8 0, .int .u8 0, .int .u8 0, .int .u8 0, .int .u8 0, .int .u8 0, .int .u8 0, .int .u8 0, .int .u8 0, .int .u8 0, .int .u8 0, .int .u8 0, .int .u8 0, .int .u8 0, .int .u8 0, .int .u8 0, .int .u8 0, .int .u8 0, .int .u8 0, .int .u8 0, .int .u8 0, .int .u8 0, .int .u8 0, .int .u8 0, .int .u8 0, .int .u8 0, .int .u8 0, .int .u8 0, .int .u8 0, .int .u8 0, .int .u8 0, .int .u8 0, .int .u8 0, .int .u8 0, .int .u8 0, .int .u8 0, .int .u8 0, .int .u8 0, .int .u8 0, .int .u8 0, .int .u8 0, .int .u8 0, .int .u8 0, .int .u8 0, .int .u8 0, .int .u8 0, .int .u8 0, .int .u8 0, .int .u8 0, .int .u8 0, .int .u8 0, .int .u8 0, .int .u8 0, .int .u8 0, .int .u8 0, .int .u8 0, .int .u8 0, .int .u8 0, .int .u8 0, .int .u8 0, .int .u8 0, .int .u8 0, .int .u8 0, .int .u8 0, .int .u8 0, .int .u8 0, .int .u8 0, .int .u8 0, .int .u8 0, .int .u8 0, .int .u8 0, .int .u8 0, .int .u8 0, .int .u8 0, .int .u8 0, .int .u8 0, .int .u8 0, .int .u8 0, .int .u8 0, .int .u8 0, .int .u8 0, .int .u8 0, .int .u8 0, .int .u8 0, .int .u8 0, .int .u8 0, .int .u8 0, .int .u8 0, .int .u8 0, .int .u8 0, .int .u8 0, .int .u8 0, .int .u8 0, .int .u8 0, .int .u8 0, .int .u8 0, .int .u8 0, .int .u8 0, .int .u8 0, .int .u8 0, .int .u8 0, .int .u8 0, .int .u8 0, .int .u8 0, .int .u8 0, .int .u8 0, .int .u8 0, .int .u8 0, .int .u8 0, .int .u8 0, .int .u8 0, .int .u8 0, .int .u8 0, .int .u8 0, .int .u8 0, .int .u8 0, .int .u8 0, .int .u8 0, .int .u8 0, .int .u8 0, .int .u8 0, .int .u8 0, .int .u8 0, .int .u8 0, .int .u8 0, .int .u8 0, .int .u8 0, .int .u8 0]
theorem zeros128_arr : zeros128 = arr (fun _ => 0) 128 := by kernel_rfl
theorem zero48 : (Tryz.prog.info? 252).map (fun i => (i.zero, i.size)) = some (some (.agg zeros128), 128) := by kernel_rfl

/-- What is left over is copied into the last chunks. -/
theorem rest_copy (w : World) (g : Nat) (sp : Option Addr) (sc b off q n : Nat) (f : Nat → Int) (hg : Row w g (arr (fun _ => 0) 128) 252) (hn : n < 64) (hsp : 0 < n → sp = some ⟨b, off + 64 * q, none⟩)
    (hcell : ∀ i, i < n → w.cell? ⟨b, off + 64 * q + i, none⟩ = some (.int .u8 (f (64 * q + i)))) :
    (Builtin.copy_ #[36, 36] 3 #[.slice (some ⟨g, 0, none⟩) 128 128, .slice sp n sc]).run Tryz.prog w = .ok (goInt n) (w.setRow g (arr (tail1 f (64 * q) n) 128)) := by
  by_cases h0 : n = 0
  · subst h0
    have e : arr (tail1 f (64 * q) 0) 128 = arr (fun _ => 0) 128 := arr_congr _ _ _ (fun i _ => by simp [tail1, over])
    rw [e, setRow_self w g _ 252 _ hg]
    exact run_copy_none (P := Tryz.prog) w 36 36 3 5 _ sp 128 128 0 sc Tryz.underlying36 info5s (by simp)
  · rw [hsp (by omega)]
    exact copy_arr w g 252 128 0 n 128 128 b (off + 64 * q) sc (fun _ => 0) (fun j => f (64 * q + j)) hg (by omega) (by omega) hcell

theorem tail2_set (f : Nat → Int) (W n : Nat) : (arr (tail1 f W n) 128).setIfInBounds n (.int .u8 128) = arr (tail2 f W n) 128 :=
  arr_set _ _ _ _ _ (fun _ _ => rfl)

/-- What the first loop keeps: the result, the digest so far. -/
structure Su (w0 : World) (Z : Array Value) (s : St) (wr : World) : Prop where
  r : Row wr w0.heap.size Z 121
  s : Row wr (w0.heap.size + 1) s.arr 250
  old : Below w0.heap.size w0 wr
theorem Su.next {w0 : World} {Z : Array Value} {s s' : St} {wr w2 : World} (h : Su w0 Z s wr) (hb : Below wr.heap.size wr w2) : Su w0 Z s' (w2.setRow (w0.heap.size + 1) s'.arr) :=
  ⟨(h.r.below hb h.r.lt).other (by omega), (h.s.below hb h.s.lt).setRow, below_setRow (h.old.trans (hb.mono h.old.size)) (by omega) _⟩

theorem Su.below {w0 : World} {Z : Array Value} {s : St} {wr w2 : World} (h : Su w0 Z s wr) (hb : Below wr.heap.size wr w2) : Su w0 Z s w2 :=
  ⟨h.r.below hb h.r.lt, h.s.below hb h.s.lt, h.old.trans (hb.mono h.old.size)⟩
theorem Su.setRow {w0 : World} {Z C : Array Value} {s : St} {wr : World} {g : Nat} (h : Su w0 Z s wr) (hg : w0.heap.size + 1 < g) : Su w0 Z s (wr.setRow g C) :=
  ⟨h.r.other (by omega), h.s.other (by omega), below_setRow h.old (by omega) _⟩

set_option maxHeartbeats 2000000 in
theorem sum_any (a : Option Addr) (b off len cap q n E : Nat) (f : Nat → Int) (w : World) (hF : FTab w) (hK : KTab w) (hB : Bs w a b off len f) (hnone : a = none → len = 0 ∧ cap = 0) (hlc : len ≤ cap) (hcap : cap ≤ 9223372036854775807) (hl : len ≤ 140737488351232)
    (hq : len = 64 * q + n) (hn : n < 64) (hE : E = if n + 9 > 64 then 2 else 1) :
    Calls Tryz.prog 138 #[.slice a len cap] w fun e w' => e = .returned (.agg (arr (dig (hs f len (64 * q + 64 * E) (q + E))) 32)) ∧ Below w.heap.size w w' := by
  obtain ⟨Z, hZ⟩ : ∃ Z, Z = zeros32 := ⟨_, rfl⟩
  have hZs : Z.size = 32 := by rw [hZ]; rfl
  unfold zeros32 at hZ
  have HZ : Hid _ := hZ
  clear hZ
  have hp := hK.pos
  have hpF := hF.pos
  obtain ⟨tF, frF, hF⟩ := hF
  have hF1 : (w.alloc (.cells Z 121)).heap[0]? = some (.cells st0.arr tF frF) := (Below.heap_alloc w _ 0 (by omega)).trans hF
  have HB : Hid _ := hB
  have HK : Hid (KTab w) := hK
  have HN : Hid _ := hnone
  clear hB hK hF hnone
  have hwh : (len : Int) - (len : Int) % 64 = 64 * (q : Int) := by omega
  have hq1 : 64 * q ≤ len := by omega
  have HQ : Hid _ := hq
  have HE : Hid _ := hE
  obtain ⟨T, hT⟩ : ∃ T, T = 64 * q + 64 * E := ⟨_, rfl⟩
  rw [← hT]
  have HT : Hid _ := hT
  have hTl : len + 9 ≤ T := by rw [hT, hq, hE]; split <;> omega
  clear hq hE hT
  have i45 : (Tryz.prog.info? 199).map (·.size) = some st0.arr.size := info45
  have i46 := st0.arr_info
  have o46 := st0.arr_one
  go_enter Tryz.func138, Tryz.ntmps138
  go_wp2_with (first
    | refine wpList_load_row rfl 199 _ rfl 0 rfl tF st0.arr frF _ (by rw [← HZ.out]; exact hF1) Tryz.underlying199 rfl i45 ?_
    | refine wpList_store_new rfl 250 _ _ rfl (w.alloc (.cells Z 121)) zst.arr st0.arr 250 (by rw [HZ.out]; rfl) (w.heap.size + 1) (by simp) rfl rfl i46 rfl o46 ?_)
  have hS0 : Su w Z (hs f len T 0) ((w.alloc (.cells Z 121)).alloc (.cells st0.arr 250)) := by
    refine ⟨(Row.new w Z 121).alloc _, ?_, ((Below.refl _ _).alloc (Nat.le_refl _) _).alloc (by simp) _⟩
    have h := Row.new (w.alloc (.cells Z 121)) st0.arr 250
    rw [World.size_alloc] at h
    exact h
  clear hF1 i45 i46 o46
  generalize (w.alloc (.cells Z 121)).alloc (.cells st0.arr 250) = W0 at *
  go_loopw [5] (fun i wr => ∃ j : Nat, j ≤ q ∧ i = .int .i64 (64 * (j : Int)) ∧ Su w Z (hs f len T j) wr) (fun i _ => 64 * q - (intOf i).toNat)
  case atStart => exact ⟨0, Nat.zero_le _, rfl, hS0⟩
  case round =>
    clear hS0
    obtain ⟨j, hj, rfl, hO⟩ := hrel
    by_cases hlt : j < q
    · obtain rfl := HB.out.at' (by omega)
      have hjq : 64 * (j : Int) < 64 * (q : Int) := by omega
      have hnc : ¬ cap = 64 * j := by omega
      have hjl : 64 * (j : Int) + 64 ≤ (len : Int) := by omega
      have hjc : 64 * (j : Int) + 64 ≤ (cap : Int) := by omega
      have hcell : ∀ i, i < 64 → wr.cell? ⟨b, off + 64 * j + i, none⟩ = some (.int .u8 (msg f len T (64 * j + i))) := fun i hi => by
        have h := (HB.out.below hO.old).cell (64 * j + i) (by omega)
        rw [show off + 64 * j + i = off + (64 * j + i) by omega, h, msg, if_pos (by omega)]
      have HO := fun (wx : World) (hx : Below wr.heap.size wr wx) => over_any (hs f len T j) b (off + 64 * j) (cap - 64 * j) (fun i => msg f len T (64 * j + i)) wx (HK.out.below (hO.old.trans (hx.mono hO.old.size)) hp) (by omega) (by omega)
        (fun i hi => by rw [hx.cell (p := ⟨b, off + 64 * j + i, none⟩) (World.block_lt_of_cell? _ _ (hcell i hi))]; exact hcell i hi) (fun i => msg_bd f len T HB.out.bd _)
      obtain ⟨v, hv⟩ : ∃ v, v = hs f len T j := ⟨_, rfl⟩
      have HV : Hid (ovr (fun i => msg f len T (64 * j + i)) v = hs f len T (j + 1)) := by rw [hv]; rfl
      rw [← hv] at hO HO
      obtain ⟨c0, c1, c2, c3, c4, c5, c6, c7⟩ := hO.s.cells8
      have HO' : Hid _ := HO
      have hsl := slice_lh b off len cap (64 * j) 64 (by omega) (by omega) (64 * (j : Int)) (64 * (j : Int) + 64) (by omega) (by omega)
      have hw64 : IntKind.i64.wrap (64 * (j : Int) + 64) = 64 * (j : Int) + 64 := by rw [IntKind.wrap_i64]; omega
      clear HO hv hcell
      go_wp2
      go_region_with (go_at_call 190; refine (HO'.out _ (Below.refl _ _).drew).mono ?_; rintro e w2 ⟨rfl, hb2⟩; have hst := storeCells_row (C := (ovr (fun i => msg f len T (64 * j + i)) v).arr) (hO.s.drew.below hb2 hO.s.drew.lt) rfl (St.arr_one _); have hs8 := St.arr_size (ovr (fun i => msg f len T (64 * j + i)) v))
      all_goals
        have hN : Su w Z (ovr (fun i => msg f len T (64 * j + i)) v) (w2.setRow (w.heap.size + 1) (ovr (fun i => msg f len T (64 * j + i)) v).arr) := hO.next ((Below.refl _ _).drew.trans hb2)
        rw [HV.out] at hN
        clear hst hs8 hO
        go_wp2
        go_roundw
        case rel => exact ⟨j + 1, by omega, by go_num, by rw [HV.out]; exact hN⟩
        case measure => simp [intOf]; omega
    · obtain rfl : j = q := by omega
      obtain ⟨sp, sc, hsl, hsp⟩ := rest_slice a b off len cap j n HB.out.at' HN.out hlc HQ.out
      obtain ⟨Y, hY⟩ : ∃ Y, Y = zeros128 := ⟨_, rfl⟩
      have hYa : Y = arr (fun _ => 0) 128 := by rw [hY]; exact zeros128_arr
      have hz48 : ∀ w : World, (zeroValue 252).run Tryz.prog w = .ok (.agg Y) w := by rw [hY]; exact (zero_of_info zero48).1
      clear hY
      have rT : Row (wr.alloc (.cells Y 252)) wr.heap.size (arr (fun _ => 0) 128) 252 := by rw [← hYa]; exact Row.new wr Y 252
      have hcp := rest_copy (wr.alloc (.cells Y 252)).drew wr.heap.size sp sc b off j n f rT hn hsp (fun i hi => by
        have h := (HB.out.below hO.old).cell (64 * j + i) (by rw [HQ.out]; omega)
        rw [← Nat.add_assoc] at h
        rw [World.cell?_drew, World.cell?_alloc_lt _ _ _ (World.block_lt_of_cell? _ _ h)]
        exact h)
      have HYa : Hid _ := hYa
      have HSP : Hid _ := hsp
      clear hYa hsp
      go_wp2
      go_region
      have hnT : w.heap.size + 1 < wr.heap.size := hO.s.lt
      have hO1 : Su w Z (hs f len T j) ((wr.alloc (Obj.cells Y 252)).drew.setRow wr.heap.size (arr (tail1 f (64 * j) n) 128)) :=
        (hO.below (((Below.refl _ _).alloc (Nat.le_refl _) _).drew)).setRow hnT
      have rT1 : Row ((wr.alloc (Obj.cells Y 252)).drew.setRow wr.heap.size (arr (tail1 f (64 * j) n) 128)) wr.heap.size (arr (tail1 f (64 * j) n) 128) 252 := rT.drew.setRow
      clear hcp rT hO hsl hz48 HYa HSP
      generalize (wr.alloc (Obj.cells Y 252)).drew.setRow wr.heap.size (arr (tail1 f (64 * j) n) 128) = W1 at *
      generalize wr.heap.size = nT at *
      have c := rT1.cell n
      rw [arr_at _ _ _ (by omega)] at c
      have z := rT1.frozen n
      have rT2 : Row (W1.setCell ⟨nT, n, none⟩ (.int .u8 128)) nT (arr (tail2 f (64 * j) n) 128) 252 := by
        rw [← tail2_set]; exact rT1.setCell _
      have hO2 : Su w Z (hs f len T j) (W1.setCell ⟨nT, n, none⟩ (.int .u8 128)) := ⟨hO1.r.setCell_other (by omega) _, hO1.s.setCell_other (by omega) _, hO1.old.setCell (by simp; omega) _⟩
      have HBy := bytes_any ((len : Int) * 8) 8 (W1.setCell ⟨nT, n, none⟩ (.int .u8 128)) (by decide) (by decide)
      have hn1 : (n : Int) < 64 := by omega
      clear rT1 hO1
      by_cases h9 : 64 < (n : Int) + 1 + 8
      · obtain rfl : E = 2 := by rw [HE.out]; rw [if_pos (by omega)]
        have hT : T = 64 * j + 128 := by rw [HT.out]
        have HTM : Hid (∀ i, i < 128 → tail3 f (64 * j) n 128 len i = msg f len T (64 * j + i)) := by
          intro i hi
          rw [hT]
          exact tail_msg f (64 * j) n 128 len HQ.out (by omega) i hi
        clear HT HE hT
        go_wp2_with fail
        generalize W1.setCell ⟨nT, n, none⟩ (.int .u8 128) = W2 at *
        refine HBy.mono ?_
        rintro e w2 ⟨rfl, hb2, hsz2, hrow2⟩
        have rT3 := rT2.below hb2 rT2.lt
        have hO3 := hO2.below hb2
        have hcp2 := copy_arr w2 nT 252 128 (128 - 8) 8 8 (128 - (128 - 8)) W2.heap.size 0 8 (tail2 f (64 * j) n) (len8 len) rT3 (by decide) (by decide) (fun x hx => by
          rw [Nat.zero_add, hrow2.cell hx, len8, Int.mul_comm])
        have hsl2 := sliceAt_lh 252 128 Tryz.underlying252 nT (128 - 8) 8 (by decide) (by decide) (128 - 8) 128 (by decide) (by decide) w2
        simp only [Nat.reduceSub, Int.reduceSub] at hcp2 hsl2
        have rT4 : Row (w2.setRow nT (arr (tail3 f (64 * j) n 128 len) 128)) nT (arr (tail3 f (64 * j) n 128 len) 128) 252 := rT3.setRow
        have hO4 : Su w Z (hs f len T (j + 0)) (w2.setRow nT (arr (tail3 f (64 * j) n 128 len) 128)) := hO3.setRow hnT
        have HT3 : Hid (over (tail2 f (64 * j) n) (len8 len) (128 - 8) 8 = tail3 f (64 * j) n 128 len) := rfl
        simp only [Nat.reduceSub] at HT3
        rw [HT3.out] at hcp2
        clear HBy rT2 hO2 hb2 hsz2 hrow2 rT3 hO3 HT3 hn1 c z
        go_wp2
        generalize w2.setRow nT (arr (tail3 f (64 * j) n 128 len) 128) = W3 at *
        clear hcp2 hsl2
        have HTL : Hid (∀ i, i < 128 → (arr (tail3 f (64 * j) n 128 len) 128)[i]? = some (.int .u8 (msg f len T (64 * j + i)))) := by
          intro i hi
          rw [arr_at _ _ _ (by omega), HTM.out i hi]
        generalize arr (tail3 f (64 * j) n 128 len) 128 = TL at *
        clear HTM
        go_loopw [11] (fun i wx => ∃ k : Nat, k ≤ 2 ∧ i = .int .i64 (64 * (k : Int)) ∧ Su w Z (hs f len T (j + k)) wx ∧ Row wx nT TL 252) (fun i _ => 128 - (intOf i).toNat)
        case atStart => exact ⟨0, Nat.zero_le _, rfl, hO4, rT4⟩
        case round =>
          clear hO4 rT4
          obtain ⟨k, hk, rfl, hO, rT⟩ := hrel
          by_cases hkl : k < 2
          · have hk1 : 64 * (k : Int) < 128 := by omega
            have hcell : ∀ i, i < 64 → wr.cell? ⟨nT, 64 * k + i, none⟩ = some (.int .u8 (msg f len T (64 * (j + k) + i))) := fun i hi => by
              rw [rT.cell, HTL.out _ (by omega), show 64 * j + (64 * k + i) = 64 * (j + k) + i by omega]
            have HO := fun (wx : World) (hx : Below wr.heap.size wr wx) => over_any (hs f len T (j + k)) nT (64 * k) (128 - 64 * k) (fun i => msg f len T (64 * (j + k) + i)) wx (HK.out.below (hO.old.trans (hx.mono hO.old.size)) hp) (by omega) (by omega)
              (fun i hi => by rw [hx.cell (p := ⟨nT, 64 * k + i, none⟩) (World.block_lt_of_cell? _ _ (hcell i hi))]; exact hcell i hi) (fun i => msg_bd f len T HB.out.bd _)
            obtain ⟨v, hv⟩ : ∃ v, v = hs f len T (j + k) := ⟨_, rfl⟩
            have HV : Hid (ovr (fun i => msg f len T (64 * (j + k) + i)) v = hs f len T (j + (k + 1))) := by rw [hv]; rfl
            rw [← hv] at hO HO
            obtain ⟨c0, c1, c2, c3, c4, c5, c6, c7⟩ := hO.s.cells8
            have HO' : Hid _ := HO
            have hsl := sliceAt_lh 252 128 Tryz.underlying252 nT (64 * k) 64 (by omega) (by omega) (64 * (k : Int)) (64 * (k : Int) + 64) (by omega) (by omega)
            have hw64 : IntKind.i64.wrap (64 * (k : Int) + 64) = 64 * (k : Int) + 64 := by rw [IntKind.wrap_i64]; omega
            clear HO hv hcell
            go_wp2
            go_region_with (go_at_call 190; refine (HO'.out _ (Below.refl _ _).drew).mono ?_; rintro e w3 ⟨rfl, hb3⟩; have hst := storeCells_row (C := (ovr (fun i => msg f len T (64 * (j + k) + i)) v).arr) (hO.s.drew.below hb3 hO.s.drew.lt) rfl (St.arr_one _); have hs8 := St.arr_size (ovr (fun i => msg f len T (64 * (j + k) + i)) v))
            all_goals
              have hbx := (Below.refl wr.heap.size wr).drew.trans hb3
              have hN : Su w Z (ovr (fun i => msg f len T (64 * (j + k) + i)) v) (w3.setRow (w.heap.size + 1) (ovr (fun i => msg f len T (64 * (j + k) + i)) v).arr) := hO.next hbx
              have rN : Row (w3.setRow (w.heap.size + 1) (ovr (fun i => msg f len T (64 * (j + k) + i)) v).arr) nT TL 252 := (rT.below hbx rT.lt).other (by omega)
              rw [HV.out] at hN rN
              clear hst hs8 hO rT
              go_wp2
              go_roundw
              case rel => exact ⟨k + 1, by omega, by go_num, by rw [HV.out]; exact hN, by rw [HV.out]; exact rN⟩
              case measure => simp [intOf]; omega
          · obtain rfl : k = 2 := by omega
            have hbd : ∀ i, 0 ≤ (hs f len T (j + 2)).at i ∧ (hs f len T (j + 2)).at i < 4294967296 := fun i => ovr_bd _ _ i
            have HD := digest_any (hs f len T (j + 2)) wr hbd
            have hi46 := (hs f len T (j + 2)).arr_info
            have rS := hO.s
            have rR := hO.r
            have hold := hO.old
            have hone := arr_one (dig (hs f len T (j + 2))) 32
            have hAs := arr_size (dig (hs f len T (j + 2))) 32
            have hi24 : (Tryz.prog.info? 121).map (·.size) = some (arr (dig (hs f len T (j + 2))) 32).size := by rw [hAs]; exact info24
            clear hO hbd rT HTL
            go_wp2_with (refine wpList_load_row rfl 250 _ rfl _ rfl 250 (hs f len T (j + 2)).arr (0, 0) _ rS Tryz.underlying250 rfl hi46 ?_)
            refine HD.mono ?_
            rintro e w3 ⟨rfl, hb3⟩
            have rR3 := rR.below hb3 rR.lt
            have hb3' := hold.trans (hb3.mono hold.size)
            clear HD rS rR hold hb3
            go_wp2_with (refine wpList_store_row rfl 121 _ _ rfl w.heap.size (arr (dig (hs f len T (j + 2))) 32) rfl rfl 121 Z rR3 hi24 (hZs.trans hAs.symm) hone ?_)
            refine bodyPost_ret (results_cell_row results8 _ _ w.heap.size 121 _ (0, 0) _ rfl rR3.setRow Tryz.underlying121 rfl hi24) rfl ⟨rfl, below_setRow hb3' (Nat.le_refl _) _⟩
      · obtain rfl : E = 1 := by rw [HE.out]; rw [if_neg (by omega)]
        have hT : T = 64 * j + 64 := by rw [HT.out]
        have HTM : Hid (∀ i, i < 64 → tail3 f (64 * j) n 64 len i = msg f len T (64 * j + i)) := by
          intro i hi
          rw [hT]
          exact tail_msg f (64 * j) n 64 len HQ.out (by omega) i hi
        clear HT HE hT
        go_wp2_with fail
        generalize W1.setCell ⟨nT, n, none⟩ (.int .u8 128) = W2 at *
        refine HBy.mono ?_
        rintro e w2 ⟨rfl, hb2, hsz2, hrow2⟩
        have rT3 := rT2.below hb2 rT2.lt
        have hO3 := hO2.below hb2
        have hcp2 := copy_arr w2 nT 252 128 (64 - 8) 8 8 (128 - (64 - 8)) W2.heap.size 0 8 (tail2 f (64 * j) n) (len8 len) rT3 (by decide) (by decide) (fun x hx => by
          rw [Nat.zero_add, hrow2.cell hx, len8, Int.mul_comm])
        have hsl2 := sliceAt_lh 252 128 Tryz.underlying252 nT (64 - 8) 8 (by decide) (by decide) (64 - 8) 64 (by decide) (by decide) w2
        simp only [Nat.reduceSub, Int.reduceSub] at hcp2 hsl2
        have rT4 : Row (w2.setRow nT (arr (tail3 f (64 * j) n 64 len) 128)) nT (arr (tail3 f (64 * j) n 64 len) 128) 252 := rT3.setRow
        have hO4 : Su w Z (hs f len T (j + 0)) (w2.setRow nT (arr (tail3 f (64 * j) n 64 len) 128)) := hO3.setRow hnT
        have HT3 : Hid (over (tail2 f (64 * j) n) (len8 len) (64 - 8) 8 = tail3 f (64 * j) n 64 len) := rfl
        simp only [Nat.reduceSub] at HT3
        rw [HT3.out] at hcp2
        clear HBy rT2 hO2 hb2 hsz2 hrow2 rT3 hO3 HT3 hn1 c z
        go_wp2
        generalize w2.setRow nT (arr (tail3 f (64 * j) n 64 len) 128) = W3 at *
        clear hcp2 hsl2
        have HTL : Hid (∀ i, i < 64 → (arr (tail3 f (64 * j) n 64 len) 128)[i]? = some (.int .u8 (msg f len T (64 * j + i)))) := by
          intro i hi
          rw [arr_at _ _ _ (by omega), HTM.out i hi]
        generalize arr (tail3 f (64 * j) n 64 len) 128 = TL at *
        clear HTM
        go_loopw [11] (fun i wx => ∃ k : Nat, k ≤ 1 ∧ i = .int .i64 (64 * (k : Int)) ∧ Su w Z (hs f len T (j + k)) wx ∧ Row wx nT TL 252) (fun i _ => 64 - (intOf i).toNat)
        case atStart => exact ⟨0, Nat.zero_le _, rfl, hO4, rT4⟩
        case round =>
          clear hO4 rT4
          obtain ⟨k, hk, rfl, hO, rT⟩ := hrel
          by_cases hkl : k < 1
          · have hk1 : 64 * (k : Int) < 64 := by omega
            have hcell : ∀ i, i < 64 → wr.cell? ⟨nT, 64 * k + i, none⟩ = some (.int .u8 (msg f len T (64 * (j + k) + i))) := fun i hi => by
              rw [rT.cell, HTL.out _ (by omega), show 64 * j + (64 * k + i) = 64 * (j + k) + i by omega]
            have HO := fun (wx : World) (hx : Below wr.heap.size wr wx) => over_any (hs f len T (j + k)) nT (64 * k) (128 - 64 * k) (fun i => msg f len T (64 * (j + k) + i)) wx (HK.out.below (hO.old.trans (hx.mono hO.old.size)) hp) (by omega) (by omega)
              (fun i hi => by rw [hx.cell (p := ⟨nT, 64 * k + i, none⟩) (World.block_lt_of_cell? _ _ (hcell i hi))]; exact hcell i hi) (fun i => msg_bd f len T HB.out.bd _)
            obtain ⟨v, hv⟩ : ∃ v, v = hs f len T (j + k) := ⟨_, rfl⟩
            have HV : Hid (ovr (fun i => msg f len T (64 * (j + k) + i)) v = hs f len T (j + (k + 1))) := by rw [hv]; rfl
            rw [← hv] at hO HO
            obtain ⟨c0, c1, c2, c3, c4, c5, c6, c7⟩ := hO.s.cells8
            have HO' : Hid _ := HO
            have hsl := sliceAt_lh 252 128 Tryz.underlying252 nT (64 * k) 64 (by omega) (by omega) (64 * (k : Int)) (64 * (k : Int) + 64) (by omega) (by omega)
            have hw64 : IntKind.i64.wrap (64 * (k : Int) + 64) = 64 * (k : Int) + 64 := by rw [IntKind.wrap_i64]; omega
            clear HO hv hcell
            go_wp2
            go_region_with (go_at_call 190; refine (HO'.out _ (Below.refl _ _).drew).mono ?_; rintro e w3 ⟨rfl, hb3⟩; have hst := storeCells_row (C := (ovr (fun i => msg f len T (64 * (j + k) + i)) v).arr) (hO.s.drew.below hb3 hO.s.drew.lt) rfl (St.arr_one _); have hs8 := St.arr_size (ovr (fun i => msg f len T (64 * (j + k) + i)) v))
            all_goals
              have hbx := (Below.refl wr.heap.size wr).drew.trans hb3
              have hN : Su w Z (ovr (fun i => msg f len T (64 * (j + k) + i)) v) (w3.setRow (w.heap.size + 1) (ovr (fun i => msg f len T (64 * (j + k) + i)) v).arr) := hO.next hbx
              have rN : Row (w3.setRow (w.heap.size + 1) (ovr (fun i => msg f len T (64 * (j + k) + i)) v).arr) nT TL 252 := (rT.below hbx rT.lt).other (by omega)
              rw [HV.out] at hN rN
              clear hst hs8 hO rT
              go_wp2
              go_roundw
              case rel => exact ⟨k + 1, by omega, by go_num, by rw [HV.out]; exact hN, by rw [HV.out]; exact rN⟩
              case measure => simp [intOf]; omega
          · obtain rfl : k = 1 := by omega
            have hbd : ∀ i, 0 ≤ (hs f len T (j + 1)).at i ∧ (hs f len T (j + 1)).at i < 4294967296 := fun i => ovr_bd _ _ i
            have HD := digest_any (hs f len T (j + 1)) wr hbd
            have hi46 := (hs f len T (j + 1)).arr_info
            have rS := hO.s
            have rR := hO.r
            have hold := hO.old
            have hone := arr_one (dig (hs f len T (j + 1))) 32
            have hAs := arr_size (dig (hs f len T (j + 1))) 32
            have hi24 : (Tryz.prog.info? 121).map (·.size) = some (arr (dig (hs f len T (j + 1))) 32).size := by rw [hAs]; exact info24
            clear hO hbd rT HTL
            go_wp2_with (refine wpList_load_row rfl 250 _ rfl _ rfl 250 (hs f len T (j + 1)).arr (0, 0) _ rS Tryz.underlying250 rfl hi46 ?_)
            refine HD.mono ?_
            rintro e w3 ⟨rfl, hb3⟩
            have rR3 := rR.below hb3 rR.lt
            have hb3' := hold.trans (hb3.mono hold.size)
            clear HD rS rR hold hb3
            go_wp2_with (refine wpList_store_row rfl 121 _ _ rfl w.heap.size (arr (dig (hs f len T (j + 1))) 32) rfl rfl 121 Z rR3 hi24 (hZs.trans hAs.symm) hone ?_)
            refine bodyPost_ret (results_cell_row results8 _ _ w.heap.size 121 _ (0, 0) _ rfl rR3.setRow Tryz.underlying121 rfl hi24) rfl ⟨rfl, below_setRow hb3' (Nat.le_refl _) _⟩
end Go.Proofs.YtppgidmeeaodkaaGreatDoor.S2
