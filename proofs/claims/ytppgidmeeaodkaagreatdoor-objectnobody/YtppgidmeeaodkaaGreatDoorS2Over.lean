/- One further chunk: what the digest so far becomes, and the walk of over. -/
import Derived.Test.YtppgidmeeaodkaaGreatDoorS2Sched
import Derived.Deep.RegionWith
import Derived.Deep.DrawnRows
namespace Go.Proofs.YtppgidmeeaodkaaGreatDoor.S2
set_option maxRecDepth 20000
open Go.RowKit Num

/-- The constants of the rounds. -/
def kcs : List Int := [1116352408, 1899447441, 3049323471, 3921009573, 961987163, 1508970993, 2453635748, 2870763221, 3624381080, 310598401, 607225278, 1426881987, 1925078388, 2162078206, 2614888103, 3248222580, 3835390401, 4022224774, 264347078, 604807628, 770255983, 1249150122, 1555081692, 1996064986, 2554220882, 2821834349, 2952996808, 3210313671, 3336571891, 3584528711, 113926993, 338241895, 666307205, 773529912, 1294757372, 1396182291, 1695183700, 1986661051, 2177026350, 2456956037, 2730485921, 2820302411, 3259730800, 3345764771, 3516065817, 3600352804, 4094571909, 275423344, 430227734, 506948616, 659060556, 883997877, 958139571, 1322822218, 1537002063, 1747873779, 1955562222, 2024104815, 2227730452, 2361852424, 2428436474, 2756734187, 3204031479, 3329325298]
def kc (i : Nat) : Int := kcs.getD i 0
/-- The table of the constants lies in block 1. -/
def KTab (w : World) : Prop := ∃ t fr, w.heap[3]? = some (.cells (ar4 kc 64) t fr)
theorem KTab.below {B : Nat} {w w' : World} (h : KTab w) (hb : Below B w w') (hB : 3 < B) : KTab w' := by
  obtain ⟨t, fr, h⟩ := h
  exact ⟨t, fr, (hb.block 3 hB).trans h⟩
theorem KTab.pos {w : World} (h : KTab w) : 3 < w.heap.size := by
  obtain ⟨t, fr, h⟩ := h
  exact (Array.getElem?_eq_some_iff.1 h).1
theorem KTab.cell {w : World} (h : KTab w) (i : Nat) (hi : i < 64) : w.cell? ⟨3, i, none⟩ = some (.int .u32 (kc i)) := by
  obtain ⟨t, fr, h⟩ := h
  rw [cell_of_row w 3 i _ t fr h, ar4_at _ _ _ hi]

/-- The eight numbers behind k rounds. -/
def rnds (m : Nat → Int) (s : St) : Nat → St
  | 0 => s
  | k + 1 => rnd (rnds m s k) ((kc k + sc m k) % 4294967296)
def St.at (s : St) : Nat → Int
  | 0 => s.a | 1 => s.b | 2 => s.c | 3 => s.d | 4 => s.e | 5 => s.f | 6 => s.g | 7 => s.h | _ => 0
def St.of (g : Nat → Int) : St := ⟨g 0, g 1, g 2, g 3, g 4, g 5, g 6, g 7⟩
/-- The digest so far behind one further chunk. -/
def ovr (m : Nat → Int) (s : St) : St := St.of fun i => (s.at i + (rnds m s 64).at i) % 4294967296

theorem St.arr_at (s : St) : s.arr = ar4 s.at 8 := by cases s; kernel_rfl
theorem St.of_arr (g : Nat → Int) : (St.of g).arr = ar4 g 8 := by kernel_rfl
theorem results17 : Tryz.f190.results = #[.cell 4 250] := by kernel_rfl
def zst : St := ⟨0, 0, 0, 0, 0, 0, 0, 0⟩

theorem Row.cells8 {w : World} {g : Nat} {s : St} {t : TypeId} (h : Row w g s.arr t) :
    w.cell? ⟨g, 0, none⟩ = some (.int .u32 s.a) ∧ w.cell? ⟨g, 1, none⟩ = some (.int .u32 s.b) ∧ w.cell? ⟨g, 2, none⟩ = some (.int .u32 s.c) ∧ w.cell? ⟨g, 3, none⟩ = some (.int .u32 s.d) ∧
    w.cell? ⟨g, 4, none⟩ = some (.int .u32 s.e) ∧ w.cell? ⟨g, 5, none⟩ = some (.int .u32 s.f) ∧ w.cell? ⟨g, 6, none⟩ = some (.int .u32 s.g) ∧ w.cell? ⟨g, 7, none⟩ = some (.int .u32 s.h) :=
  ⟨h.cell 0, h.cell 1, h.cell 2, h.cell 3, h.cell 4, h.cell 5, h.cell 6, h.cell 7⟩

/-- A whole array's cells are stored into a block. -/
theorem storeCells_row {w : World} {g : Nat} {old C : Array Value} {t : TypeId} (hg : Row w g old t) (ho : old.size = C.size) (h1 : C.all (·.oneCell') = true) :
    (storeCells ⟨g, 0, none⟩ C.toList).run Tryz.prog w = .ok () (w.setRow g C) := by
  have := run_storeCells_from (P := Tryz.prog) g t C.toList 0 old w hg (by simp; omega) (fun v hv => (Array.all_eq_true_iff_forall_mem.1 h1) v (by simpa using hv))
  simpa [ho] using this

/-- What the loop of the rounds keeps. -/
structure Ov (w0 : World) (SA : Array Value) (n1 : Nat) (m : Nat → Int) (v0 : St) (wr : World) : Prop where
  s : Row wr w0.heap.size SA 250
  r : Row wr (w0.heap.size + 1) zst.arr 250
  w : Row wr n1 (ar4 (sc m) 64) 258
  v : Row wr (n1 + 1) v0.arr 250
  old : Below w0.heap.size w0 wr
  n : w0.heap.size + 1 < n1

theorem Ov.next {w0 : World} {SA : Array Value} {n1 : Nat} {m : Nat → Int} {v v' : St} {wr w2 : World} (h : Ov w0 SA n1 m v wr) (hb : Below wr.heap.size wr w2) : Ov w0 SA n1 m v' (w2.setRow (n1 + 1) v'.arr) := by
  have hn := h.n
  exact ⟨(h.s.below hb h.s.lt).other (by omega), (h.r.below hb h.r.lt).other (by omega), (h.w.below hb h.w.lt).other (by omega), (h.v.below hb h.v.lt).setRow, below_setRow (h.old.trans (hb.mono h.old.size)) (by omega) _, h.n⟩

/-- In the second loop: the first j numbers are added. -/
def added (s v : St) (j : Nat) : Nat → Int := fun i => if i < j then (s.at i + v.at i) % 4294967296 else s.at i
theorem added_next (s v : St) (j : Nat) : (ar4 (added s v j) 8).setIfInBounds j (.int .u32 ((s.at j + v.at j) % 4294967296)) = ar4 (added s v (j + 1)) 8 :=
  ar4_set _ _ _ _ _ (fun i _ => by
    unfold added
    by_cases e : i = j
    · rw [if_pos e, if_pos (by omega), e]
    · rw [if_neg e]
      by_cases h : i < j
      · rw [if_pos h, if_pos (by omega)]
      · rw [if_neg h, if_neg (by omega)])

set_option maxHeartbeats 1000000 in
theorem over_any (s : St) (b off cap : Nat) (m : Nat → Int) (w : World) (hK : KTab w) (hcap : 64 ≤ cap) (hcap' : cap ≤ 9223372036854775807) (hcell : ∀ i, i < 64 → w.cell? ⟨b, off + i, none⟩ = some (.int .u8 (m i))) (hm : ∀ i, 0 ≤ m i ∧ m i < 256) :
    Calls Tryz.prog 190 #[.agg s.arr, .slice (some ⟨b, off, none⟩) 64 cap] w fun e w' => e = .returned (.agg (ovr m s).arr) ∧ Below w.heap.size w w' := by
  have hb0 : Below w.heap.size w ((w.alloc (.cells s.arr 250)).alloc (.cells zst.arr 250)) := ((Below.refl _ _).alloc (Nat.le_refl _) _).alloc (by simp) _
  have HS := schedule_any b off cap m ((w.alloc (.cells s.arr 250)).alloc (.cells zst.arr 250)) hcap hcap' (fun i hi => by
    rw [hb0.cell (p := ⟨b, off + i, none⟩) (World.block_lt_of_cell? _ _ (hcell i hi))]; exact hcell i hi) hm
  have hp := hK.pos
  have HK : Hid (KTab w) := hK
  clear hcell hK
  have rS : Row ((w.alloc (.cells s.arr 250)).alloc (.cells zst.arr 250)) w.heap.size s.arr 250 := (Row.new w s.arr 250).alloc _
  have rR : Row ((w.alloc (.cells s.arr 250)).alloc (.cells zst.arr 250)) (w.heap.size + 1) zst.arr 250 := by
    have h := Row.new (w.alloc (.cells s.arr 250)) zst.arr 250
    rw [World.size_alloc] at h
    exact h
  have hS8 := s.arr_info
  obtain ⟨SA, hSA⟩ : ∃ SA, SA = s.arr := ⟨_, rfl⟩
  have hSs : SA.size = 8 := by rw [hSA]; rfl
  have hSo : SA.all (·.oneCell') = true := by rw [hSA]; exact s.arr_one
  rw [← hSA] at HS hb0 rS rR hS8 ⊢
  have HSA : Hid _ := hSA
  clear hSA
  obtain ⟨Z, hZ⟩ : ∃ Z, Z = zeros64 := ⟨_, rfl⟩
  have hZs : Z.size = 64 := by rw [hZ]; rfl
  unfold zeros64 at hZ
  have HZ : Hid _ := hZ
  clear hZ
  have hWi : (Tryz.prog.info? 258).map (·.size) = some (ar4 (sc m) 64).size := by rw [ar4_size]; exact info65
  have hWo := ar4_one (sc m) 64
  have hWs := ar4_size (sc m) 64
  go_enter Tryz.func190, Tryz.ntmps190
  go_wp2_with fail
  refine HS.mono ?_
  rintro e w1 ⟨rfl, hb1⟩
  have rS1 := rS.below hb1 rS.lt
  have rR1 := rR.below hb1 rR.lt
  have hb1' := hb0.trans (hb1.mono hb0.size)
  have hsz := hb1.size
  rw [World.size_alloc, World.size_alloc] at hsz
  clear HS rS rR hb0 hb1
  have rW : Row (w1.alloc (.cells (ar4 (sc m) 64) 258)) w1.heap.size (ar4 (sc m) 64) 258 := Row.new w1 _ 258
  have rS2 := rS1.alloc (.cells (ar4 (sc m) 64) 258)
  have rR2 := rR1.alloc (.cells (ar4 (sc m) 64) 258)
  go_wp2_with (first
    | refine wpList_store_new rfl 258 _ _ rfl w1 zeros64 (ar4 (sc m) 64) 258 rfl w1.heap.size rfl rfl rfl hWi (by rw [hWs]; rfl) hWo ?_
    | refine wpList_load_row rfl 250 _ rfl w.heap.size rfl 250 SA (0, 0) _ rS2 Tryz.underlying250 rfl hS8 ?_
    | refine wpList_store_new rfl 250 _ _ rfl (w1.alloc (.cells (ar4 (sc m) 64) 258)) zst.arr SA 250 rfl (w1.heap.size + 1) (by simp) rfl rfl hS8 (by rw [hSs]; rfl) hSo ?_)
  have hV0 : Ov w SA w1.heap.size m (rnds m s 0) ((w1.alloc (.cells (ar4 (sc m) 64) 258)).alloc (.cells SA 250)) := by
    refine ⟨rS2.alloc _, rR2.alloc _, rW.alloc _, ?_, (hb1'.alloc hb1'.size _).alloc (by simp; omega) _, by omega⟩
    have h := Row.new (w1.alloc (.cells (ar4 (sc m) 64) 258)) SA 250
    rw [World.size_alloc, HSA.out] at h
    rw [HSA.out]
    exact h
  clear rS1 rR1 rS2 rR2 rW hb1'
  generalize w1.heap.size = n1 at *
  generalize (w1.alloc (.cells (ar4 (sc m) 64) 258)).alloc (.cells SA 250) = W0 at *
  go_loopw [12] (fun i wr => ∃ k : Nat, k ≤ 64 ∧ i = .int .i64 k ∧ Ov w SA n1 m (rnds m s k) wr) (fun i _ => 64 - (intOf i).toNat)
  case atStart => exact ⟨0, Nat.zero_le _, rfl, hV0⟩
  case round =>
    clear hV0
    obtain ⟨k, hk, rfl, hO⟩ := hrel
    by_cases hlt : k < 64
    · have ck := (HK.out.below hO.old hp).cell k hlt
      have cw := hO.w.cell k
      rw [ar4_at _ _ _ hlt] at cw
      obtain ⟨v, hv⟩ : ∃ v, v = rnds m s k := ⟨_, rfl⟩
      rw [← hv] at hO
      obtain ⟨c0, c1, c2, c3, c4, c5, c6, c7⟩ := hO.v.cells8
      have hk0 : (0 : Int) ≤ (k : Int) := by omega
      have hk1 : (k : Int) < 64 := by omega
      have HV : Hid _ := hv
      clear hv
      go_wp2
      have z : ∀ i, wr.frozen? ⟨n1 + 1, i, none⟩ = false := hO.v.frozen
      go_region_with (go_at_call 229; refine (round_any v ((kc k + sc m k) % 4294967296) _).mono ?_; rintro e w2 ⟨rfl, hb2⟩; have hst := storeCells_row (C := (rnd v ((kc k + sc m k) % 4294967296)).arr) (hO.v.drew.below hb2 hO.v.drew.lt) rfl (St.arr_one _); have hs8 := St.arr_size (rnd v ((kc k + sc m k) % 4294967296)))
      all_goals
        have hN : Ov w SA n1 m (rnd v ((kc k + sc m k) % 4294967296)) (w2.setRow (n1 + 1) (rnd v ((kc k + sc m k) % 4294967296)).arr) := hO.next ((Below.refl _ _).drew.trans hb2)
        rw [HV.out] at hN
        clear hst hs8 hO
        go_wp2
        go_roundw
        case rel => exact ⟨k + 1, by omega, by go_num, by rw [HV.out]; exact hN⟩
        case measure => simp [intOf]; omega
    · obtain rfl : k = 64 := by omega
      obtain ⟨v, hv⟩ : ∃ v, v = rnds m s 64 := ⟨_, rfl⟩
      have hF : ar4 (added s v 8) 8 = (ovr m s).arr := by
        unfold ovr
        rw [St.of_arr, ← hv]
        exact ar4_congr _ _ _ (fun i hi => by simp [added, hi])
      have hS0 : SA = ar4 (added s v 0) 8 := by
        rw [HSA.out, St.arr_at]
        exact ar4_congr _ _ _ (fun i _ => by simp [added])
      rw [← hv] at hO
      have h0 := hO.s
      have h1 := hO.r
      have h2 := hO.v
      have h3 := hO.old
      have hn := hO.n
      rw [hS0] at h0
      rw [St.arr_at] at h2
      have HF : Hid _ := hF
      clear hO hv hS0 hF
      go_wp2
      go_loopw [25] (fun i wx => ∃ j : Nat, j ≤ 8 ∧ i = .int .i64 j ∧ Row wx w.heap.size (ar4 (added s v j) 8) 250 ∧ Row wx (w.heap.size + 1) zst.arr 250 ∧ Row wx (n1 + 1) (ar4 v.at 8) 250 ∧ Below w.heap.size w wx) (fun i _ => 8 - (intOf i).toNat)
      case atStart => exact ⟨0, Nat.zero_le _, rfl, h0, h1, h2, h3⟩
      case round =>
        clear h0 h1 h2 h3
        obtain ⟨j, hj, rfl, h0, h1, h2, h3⟩ := hrel
        by_cases hjl : j < 8
        · have c0 := h0.cell j
          have c2 := h2.cell j
          rw [ar4_at _ _ _ hjl] at c0 c2
          have e0 : added s v j j = s.at j := by simp [added]
          rw [e0] at c0
          have z := h0.frozen j
          clear e0
          go_wp2
          go_region
          go_wp2
          refine ⟨⟨j + 1, by omega, by go_num, ?_, (h1.setCell_other (by omega) _).drew, (h2.setCell_other (by omega) _).drew, (h3.setCell (by simp) _).drew⟩, by simp [intOf]; omega⟩
          have h := (h0.setCell (i := j) (.int .u32 ((s.at j + v.at j) % 4294967296))).drew
          rw [added_next] at h
          exact h
        · obtain rfl : j = 8 := by omega
          rw [HF.out] at h0
          have hi := (ovr m s).arr_info
          have ho := (ovr m s).arr_one
          go_wp2_with (first | refine wpList_load_row rfl 250 _ rfl _ rfl 250 (ovr m s).arr (0, 0) _ h0 Tryz.underlying250 rfl hi ?_ | refine wpList_store_row rfl 250 _ _ rfl (w.heap.size + 1) (ovr m s).arr rfl rfl 250 zst.arr h1 hi rfl ho ?_)
          refine bodyPost_ret (results_cell_row results17 _ _ (w.heap.size + 1) 250 _ (0, 0) _ rfl h1.setRow Tryz.underlying250 rfl hi) rfl ⟨rfl, below_setRow h3 (by omega) _⟩
end Go.Proofs.YtppgidmeeaodkaaGreatDoor.S2
