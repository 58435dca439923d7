/- The walk of the document's Commit. A journal on both sides, in memory. The walk of same. -/
import Derived.Test.YtlbapnecmhlgmaaM17
import Derived.Test.YtlbapnecmhlgmaaM15
namespace Go.Proofs.Ytlbapnecmhlgmaa
open Go.RowKit



theorem take_num (K : List Nat) (i : Nat) (h : i < K.length) : K.take i ++ [K.getD i 0] = K.take (i + 1) := by
  rw [List.take_succ_eq_append_getElem h]
  simp [List.getD, h]
def lenV : Value → Nat
  | .slice _ n _ => n
  | _ => 0
theorem rcommit_nil {w : World} {qb gq gr A sec : Nat} {lv : Value} {P : List Rv} (hQ : QAt w qb gq gr A sec lv P) (hP : P = []) :
    Calls Try.prog 16 #[.pointer (some ⟨gq, 0, none⟩)] w fun e w' => (∃ r, e = .returned r) ∧ w' = w := by
  have c3 := (hQ.row.cell 3).trans (rfl : _ = some lv)
  obtain ⟨a, c, hlv, _⟩ := own_slice hQ.puts
  subst hP
  simp only [List.length_nil] at hlv
  subst hlv
  clear hQ
  go_enter Try.func16, Try.ntmps16
  go_wp2
  refine bodyPost_ret (results_none rfl _ _ _) rfl ?_
  exact ⟨⟨_, rfl⟩, rfl⟩

set_option maxRecDepth 20000 in
set_option maxHeartbeats 4000000 in
theorem rcommit_ok {w0 w : World} {base gr : Nat} {fv : Value} {D : Dk} {qb gq A sec : Nat} {lv : Value} {L : List Pt} {K : List Nat} (hJ : RJ w0 base gr fv D w) (hbase : base ≤ w.heap.size) (hL : D.E.length ≤ 400000) (hQ : QAt w qb gq gr A sec lv (putsR L K)) (h31 : sec ≤ 31) (hfit : A + sec ≤ D.s) (hK0 : 0 < K.length) (hKl : K.length + 1 ≤ sec) (hKs : ∀ i, i < K.length → K.getD i 0 < D.s)
    (hf : ∀ i, i < K.length → ∀ j, 0 ≤ lookD L (K.getD i 0) j ∧ lookD L (K.getD i 0) j < 256) :
    Calls Try.prog 16 #[.pointer (some ⟨gq, 0, none⟩)] w fun e w' => (∃ r, e = .returned r) ∧ ∃ w1, w' = w1.setCell ⟨gq, 3, none⟩ (.slice none 0 0) ∧ RJ w0 base gr fv (comD D A L K) w1 ∧ QAt w1 qb gq gr A sec lv (putsR L K) ∧ FrR w w1 := by
  have hDh := hJ.ok.hi
  have hlen := putsR_len L K
  obtain ⟨a, c, hlv, ha⟩ := own_slice hQ.puts
  rw [hlen] at hlv ha
  obtain ⟨gl, rfl⟩ := ha hK0
  subst hlv
  have c3 := (hQ.row.cell 3).trans (rfl : _ = some (Value.slice (some ⟨gl, 0, none⟩) K.length c))
  have hne : ¬ (K.length : Int) = 0 := by omega
  have hkw : IntKind.u64.wrap (K.length : Int) = K.length := by rw [IntKind.wrap_u64]; omega
  have HJ : Hid _ := hJ
  have HQ : Hid _ := hQ
  have HF : Hid _ := hf
  have HKS : Hid _ := hKs
  clear hJ hQ ha hf hKs
  obtain ⟨MC, hMC⟩ : ∃ MC : Array Value, MC = #[.int .u8 115, .int .u8 116, .int .u8 105, .int .u8 108, .int .u8 108, .int .u8 119, .int .u8 97, .int .u8 108] := ⟨_, rfl⟩
  have c3m := ((HQ.out.below ((Below.refl w.heap.size w).alloc (Nat.le_refl _) (.cells MC 5 (8, 9)))).row.cell 3).trans (rfl : _ = some (Value.slice (some ⟨gl, 0, none⟩) K.length c))
  have HBy := refBytes_any (K.length : Int) 8 (w.alloc (.cells MC 5 (8, 9))) (by decide) (by decide) (by omega) (by omega)
  rw [show ((8 : Nat) : Int) = 8 from rfl] at HBy
  rw [hMC] at c3m HBy
  have HHB : Hid _ := HBy
  have HMC : Hid _ := hMC
  clear HBy hMC
  have kc := fun (w : World) (C : Array Value) (n c : Nat) => Lib.run_convert_bytes_const (P := Try.prog) w 40 5 C n c Try.underlying40 Try.underlying5
  go_enter Try.func16, Try.ntmps16
  go_wp2_with fail
  refine Calls.mono HHB.out ?_
  rintro e w2 ⟨rfl, hb2, hsz2, hrow2⟩
  have hB2 : Below w.heap.size w w2 := ((Below.refl w.heap.size w).alloc (Nat.le_refl _) _).trans (hb2.mono (by simp))
  have hold : Hid (∀ i, i < 8 → w2.cell? ⟨w.heap.size, i, none⟩ = some (.int .u8 (hdr K i))) := by
    intro i hi
    rw [World.cell?_of_block (hb2.block _ (by simp)), hdr_mark K i hi]
    have : i = 0 ∨ i = 1 ∨ i = 2 ∨ i = 3 ∨ i = 4 ∨ i = 5 ∨ i = 6 ∨ i = 7 := by omega
    unfold World.cell?
    rw [heap_alloc_new]
    rcases this with rfl | rfl | rfl | rfl | rfl | rfl | rfl | rfl <;> rfl
  have hnew : Hid (∀ i, i < 8 → w2.cell? ⟨(w.alloc (.cells MC 5 (8, 9))).heap.size, i, none⟩ = some (.int .u8 (hdr K (8 + i)))) := by
    intro i hi
    rw [hdr_count K i hi, HMC.out]
    exact hrow2.cell hi
  have hsz2' : w.heap.size ≤ w2.heap.size := hB2.size
  clear hb2 hrow2 hsz2 HHB kc c3 c3m
  rw [HMC.out] at hnew
  generalize (w.alloc (.cells #[.int .u8 115, .int .u8 116, .int .u8 105, .int .u8 108, .int .u8 108, .int .u8 119, .int .u8 97, .int .u8 108] 5 (8, 9))).heap.size = nb at *
  clear HMC
  go_wp2_with (at_builtin; refine wpList_grow_byts rfl _ _ rfl w.heap.size w.heap.size 8 (hdr K) rfl hold nb 8 8 (by decide) rfl hnew (by decide) hsz2' ?_)
  intro h1 w3 hH1 hB3
  have hB03 : Below w.heap.size w w3 := hB2.trans (hB3.mono hsz2')
  have hC0 : Hid (ComAt w0 base gr fv qb gq A sec (.slice (some ⟨gl, 0, none⟩) K.length c) (putsR L K) w (hdr K) (wrN D A L K 0) (.slice none 0 0) (K.take 0) h1 (16 + 8 * 0) w3) :=
    ⟨HJ.out.below hB03 hbase, FrR.of_below hB03, HQ.out.below hB03, ⟨by simp, .inl ⟨rfl, by simp⟩⟩, hH1.out, hbase, HJ.out.fr.size⟩
  clear hH1 hB2 hB3 hB03 hold hnew
  go_wp2
  go_loopw [2, 3, 6] (fun u hv iv wx => ∃ i : Nat, i ≤ K.length ∧ iv = .int .i64 i ∧ Hid (ComAt w0 base gr fv qb gq A sec (.slice (some ⟨gl, 0, none⟩) K.length c) (putsR L K) w (hdr K) (wrN D A L K i) u (K.take i) hv (16 + 8 * i) wx)) (fun _ _ iv _ => K.length - (intOf iv).toNat)
  case atStart => exact ⟨0, Nat.zero_le _, rfl, hC0⟩
  case round =>
    obtain ⟨i, hi, hiv, hC⟩ := hrel
    subst hiv
    have hdl := wrN_len D A L K i
    have hds := wrN_s D A L K i
    have hsz := hC.out.sz
    have c3 := (hC.out.q.row.cell 3).trans (rfl : _ = some (Value.slice (some ⟨gl, 0, none⟩) K.length c))
    by_cases hlt : i < K.length
    · have hlt' : (i : Int) < (K.length : Int) := by omega
      have hkb : K.getD i 0 < D.s := HKS.out i hlt
      obtain ⟨kn, hkn⟩ : ∃ kn, kn = K.getD i 0 := ⟨_, rfl⟩
      have hfb := HF.out i hlt
      rw [← hkn] at hkb hfb
      have e1 : IntKind.i64.wrap ((A : Int) + 1) = (A : Int) + 1 := by rw [IntKind.wrap_i64]; omega
      have e2 : IntKind.i64.wrap ((A : Int) + 1 + i) = (A : Int) + 1 + i := by rw [IntKind.wrap_i64]; omega
      obtain ⟨T, hT⟩ : ∃ T, T = sStr (lookD L kn) := ⟨_, rfl⟩
      have HCT : Hid (∀ wx, QAt wx qb gq gr A sec (.slice (some ⟨gl, 0, none⟩) K.length c) (putsR L K) → wx.cell? ⟨gl, i * 2, none⟩ = some (.int .i64 (kn : Int)) ∧ wx.cell? ⟨gl, i * 2 + 1, none⟩ = some (.string T)) := by
        intro wx hx
        rw [hT, hkn]
        exact hx.putAt i _ (putsR_at L K i hlt)
      obtain ⟨cc, C, fr, hCb, hnew, hcv⟩ := bytes_of (w := wr.drew) (xs := (List.range 256).map (lookD L kn)) (fun x hx => by
        obtain ⟨j, _, rfl⟩ := List.mem_map.1 hx
        exact hfb _)
      simp only [List.length_map, List.length_range] at hCb hcv
      have hcv2 : (convert 9 40 (.string T)).run Try.prog wr.drew = .ok (.slice (some ⟨wr.drew.heap.size, 0, none⟩) 256 cc) (wr.drew.drew.alloc (.cells C 5 fr)) := by rw [hT]; exact hcv
      have hbC : Below wr.heap.size wr (wr.drew.drew.alloc (.cells C 5 fr)) := ((Below.refl _ _).drew.drew).alloc (Nat.le_refl _) _
      have hC2 : Hid _ := hC.out.below hbC
      have HWr := (hC2.out.rj.write (by have := hC2.out.b; have := hC2.out.sz; omega) (by rw [hdl]; omega) (A + 1 + i) (by rw [hds]; omega) wr.drew.heap.size 0 cc (lookD L kn) hfb C fr hnew (fun j hj => by
        rw [Nat.zero_add, hCb j hj]
        simp [List.getD, hj]))
      rw [show ((A + 1 + i : Nat) : Int) = (A : Int) + 1 + i by omega] at HWr
      have HHW : Hid _ := HWr
      have hQ1 : QAt wr.drew qb gq gr A sec (.slice (some ⟨gl, 0, none⟩) K.length c) (putsR L K) := hC.out.q.below (Below.refl _ _).drew
      have HKN : Hid _ := hkn
      clear hCb hnew hcv HWr hfb hbC hkn hT
      go_wp2_with fail
      refine wp_region_mix [false, false, false, false, false, false, false, false, false, false, false, false, false, false, false, false, false, false, false, true, true] (fun wx => QAt wx qb gq gr A sec (.slice (some ⟨gl, 0, none⟩) K.length c) (putsR L K)) (by kernel_rfl) (by kernel_rfl) hQ1 ?_
      refine m_move _ rfl (by rfl) ?_
      simp only [Act.put, List.setIfInBounds_toArray, List.set_cons_zero, List.set_cons_succ]
      refine m_value ?_ (by rfl) (fun w hw => ?_) ?_
      rotate_left
      · go_simp
        with_reducible rfl
      simp only [Act.put, List.setIfInBounds_toArray, List.set_cons_zero, List.set_cons_succ]
      refine m_value ?_ (by rfl) (fun w hw => ?_) ?_
      rotate_left
      · go_simp
        with_reducible rfl
      simp only [Act.put, List.setIfInBounds_toArray, List.set_cons_zero, List.set_cons_succ]
      refine m_value ?_ (by rfl) (fun w hw => ?_) ?_
      rotate_left
      · have hc := (hw.row.cell 0).trans (rfl : _ = some (Value.pointer (some ⟨gr, 0, none⟩)))
        go_simp
        with_reducible rfl
      simp only [Act.put, List.setIfInBounds_toArray, List.set_cons_zero, List.set_cons_succ]
      refine m_move _ rfl (by rfl) ?_
      simp only [Act.put, List.setIfInBounds_toArray, List.set_cons_zero, List.set_cons_succ]
      refine m_value ?_ (by rfl) (fun w hw => ?_) ?_
      rotate_left
      · go_simp
        with_reducible rfl
      simp only [Act.put, List.setIfInBounds_toArray, List.set_cons_zero, List.set_cons_succ]
      refine m_value ?_ (by rfl) (fun w hw => ?_) ?_
      rotate_left
      · go_simp
        with_reducible rfl
      simp only [Act.put, List.setIfInBounds_toArray, List.set_cons_zero, List.set_cons_succ]
      refine m_value ?_ (by rfl) (fun w hw => ?_) ?_
      rotate_left
      · have hc := (hw.row.cell 1).trans (rfl : _ = some (Value.int .i64 (A : Int)))
        go_simp
        with_reducible rfl
      simp only [Act.put, List.setIfInBounds_toArray, List.set_cons_zero, List.set_cons_succ]
      refine m_value ?_ (by rfl) (fun w hw => ?_) ?_
      rotate_left
      · go_simp
        with_reducible rfl
      simp only [Act.put, List.setIfInBounds_toArray, List.set_cons_zero, List.set_cons_succ]
      refine m_move _ rfl (by rfl) ?_
      simp only [Act.put, List.setIfInBounds_toArray, List.set_cons_zero, List.set_cons_succ]
      refine m_value ?_ (by rfl) (fun w hw => ?_) ?_
      rotate_left
      · go_simp
        with_reducible rfl
      simp only [Act.put, List.setIfInBounds_toArray, List.set_cons_zero, List.set_cons_succ]
      refine m_move _ rfl (by rfl) ?_
      simp only [Act.put, List.setIfInBounds_toArray, List.set_cons_zero, List.set_cons_succ]
      refine m_value ?_ (by rfl) (fun w hw => ?_) ?_
      rotate_left
      · go_simp
        with_reducible rfl
      simp only [Act.put, List.setIfInBounds_toArray, List.set_cons_zero, List.set_cons_succ]
      refine m_value ?_ (by rfl) (fun w hw => ?_) ?_
      rotate_left
      · go_simp
        with_reducible rfl
      simp only [Act.put, List.setIfInBounds_toArray, List.set_cons_zero, List.set_cons_succ]
      refine m_value ?_ (by rfl) (fun w hw => ?_) ?_
      rotate_left
      · have hc := (hw.row.cell 3).trans (rfl : _ = some (Value.slice (some ⟨gl, 0, none⟩) K.length c))
        go_simp
        with_reducible rfl
      simp only [Act.put, List.setIfInBounds_toArray, List.set_cons_zero, List.set_cons_succ]
      refine m_move _ rfl (by rfl) ?_
      simp only [Act.put, List.setIfInBounds_toArray, List.set_cons_zero, List.set_cons_succ]
      refine m_value ?_ (by rfl) (fun w hw => ?_) ?_
      rotate_left
      · go_simp
        with_reducible rfl
      simp only [Act.put, List.setIfInBounds_toArray, List.set_cons_zero, List.set_cons_succ]
      refine m_value ?_ (by rfl) (fun w hw => ?_) ?_
      rotate_left
      · go_simp
        with_reducible rfl
      simp only [Act.put, List.setIfInBounds_toArray, List.set_cons_zero, List.set_cons_succ]
      refine m_value ?_ (by rfl) (fun w hw => ?_) ?_
      rotate_left
      · have hc := (HCT.out w hw).2
        go_simp
        with_reducible rfl
      simp only [Act.put, List.setIfInBounds_toArray, List.set_cons_zero, List.set_cons_succ]
      refine m_alone (.slice (some ⟨wr.drew.heap.size, 0, none⟩) 256 cc) (wr.drew.drew.alloc (.cells C 5 fr)) (by rfl) (by go_simp) hC2.out.q ?_
      simp only [Act.put, List.setIfInBounds_toArray, List.set_cons_zero, List.set_cons_succ]
      refine m_call (by rfl) 20 #[.pointer (some ⟨gr, 0, none⟩), .int .i64 ((A : Int) + 1 + i), .slice (some ⟨wr.drew.heap.size, 0, none⟩) 256 cc] (by go_simp) (Calls.mono HHW.out fun e w4 ⟨he, hJ4, hF4⟩ => ⟨_, he, hC2.out.q.frR hF4, ?_⟩)
      simp only [Act.put, List.setIfInBounds_toArray, List.set_cons_zero, List.set_cons_succ]
      refine m_done ?_
      try simp only [Exit.then]
      have hC4 : Hid (ComAt w0 base gr fv qb gq A sec (.slice (some ⟨gl, 0, none⟩) K.length c) (putsR L K) w (hdr K) (wrN D A L K (i + 1)) u2 (K.take i) u3 (16 + 8 * i) w4) := hC2.out.disk (by
        show RJ _ _ _ _ ((wrN D A L K i).write (A + 1 + i) (lookD L (K.getD i 0))) _
        rw [← show kn = K.getD i 0 from HKN.out]
        exact hJ4) hF4
      clear hJ4 hF4 hC2 HHW hQ1 hcv2 hC c3 hsz e1 e2
      have c3 := (hC4.out.q.row.cell 3).trans (rfl : _ = some (Value.slice (some ⟨gl, 0, none⟩) K.length c))
      have d1 := (HCT.out w4 hC4.out.q).1
      have hl4 : Hid _ := hC4.out.l
      have hsz4 := hC4.out.sz
      have htk : (K.take i).length ≤ 1000 := by rw [List.length_take]; omega
      go_wp2_with (at_builtin; refine wpList_num rfl _ _ rfl w.heap.size u2 (K.take i) kn w4 rfl rfl hl4 w4.heap.size rfl rfl htk hsz4 ?_)
      intro u5 w5 own5 grow5
      have hts : K.take i ++ [kn] = K.take (i + 1) := by
        rw [show kn = K.getD i 0 from HKN.out]
        exact take_num K i hlt
      have e5 : (K.take i ++ [kn]).length = i + 1 := by rw [List.length_append, List.length_take, Nat.min_eq_left (Nat.le_of_lt hlt)]; rfl
      have hC5 : Hid (ComAt w0 base gr fv qb gq A sec (.slice (some ⟨gl, 0, none⟩) K.length c) (putsR L K) w (hdr K) (wrN D A L K (i + 1)) u5 (K.take (i + 1)) u3 (16 + 8 * i) w5) := by
        rw [← hts]
        refine (hC4.out.below ((Below.refl _ _).alloc (Nat.le_refl _) _)).num ?_ grow5
        rw [e5, List.map_append, List.map_take]
        exact own5.out
      clear own5 grow5 hts e5 htk hl4 hsz4 c3 d1 hC4
      have c3 := (hC5.out.q.row.cell 3).trans (rfl : _ = some (Value.slice (some ⟨gl, 0, none⟩) K.length c))
      have d1 := (HCT.out w5 hC5.out.q).1
      have hkw5 : IntKind.u64.wrap (kn : Int) = kn := by rw [IntKind.wrap_u64]; omega
      have HBy5 := refBytes_any (kn : Int) 8 w5 (by decide) (by decide) (by omega) (by omega)
      rw [show ((8 : Nat) : Int) = 8 from rfl] at HBy5
      have HHB5 : Hid _ := HBy5
      clear HBy5
      go_wp2_with fail
      refine Calls.mono HHB5.out ?_
      rintro e w6 ⟨rfl, hb6, hsz6, hrow6⟩
      have hC6 : Hid _ := hC5.out.below hb6
      have hnew6 : Hid (∀ j, j < 8 → w6.cell? ⟨w5.heap.size, j, none⟩ = some (.int .u8 (hdr K (16 + 8 * i + j)))) := by
        intro j hj
        rw [hdr_num K i j hlt hj, ← show kn = K.getD i 0 from HKN.out]
        exact hrow6.cell hj
      have hh6 : Hid _ := hC6.out.h
      have hsz6' := hC6.out.sz
      clear hb6 hrow6 hsz6 HHB5 c3 d1 hC5 hkw5
      generalize w5.heap.size = nb6 at *
      have hb1000 : 16 + 8 * i + 8 ≤ 1000000 := by omega
      go_wp2_with (at_builtin; refine wpList_byts rfl _ _ rfl w.heap.size u3 (16 + 8 * i) (hdr K) rfl hh6 nb6 8 8 rfl hnew6 hb1000 hsz6' ?_)
      intro u7 w7 own7 grow7
      have hC7 : Hid (ComAt w0 base gr fv qb gq A sec (.slice (some ⟨gl, 0, none⟩) K.length c) (putsR L K) w (hdr K) (wrN D A L K (i + 1)) u5 (K.take (i + 1)) u7 (16 + 8 * (i + 1)) w7) := hC6.out.hd own7.out grow7
      clear own7 grow7 hh6 hnew6 hC6 hsz6'
      go_wp2
      go_roundw
      case rel => exact ⟨i + 1, by omega, by go_num, hC7⟩
      case measure => simp [intOf]; omega
    · have hlt' : ¬ (i : Int) < (K.length : Int) := by omega
      obtain rfl : i = K.length := by omega
      have c0 := (hC.out.q.row.cell 0).trans (rfl : _ = some (Value.pointer (some ⟨gr, 0, none⟩)))
      have HFl : Hid _ := hC.out.rj.flush (by have := hC.out.b; omega) (by rw [hdl]; omega)
      go_wp2_with fail
      refine Calls.mono HFl.out ?_
      rintro e w4 ⟨⟨ve, rfl⟩, hJ4, hF4⟩
      have hC4 : Hid (ComAt w0 base gr fv qb gq A sec (.slice (some ⟨gl, 0, none⟩) K.length c) (putsR L K) w (hdr K) (wrN D A L K K.length).flush u2 K u3 (16 + 8 * K.length) w4) := by
        have := hC.out.disk hJ4 hF4
        rw [List.take_length] at this
        exact this
      clear hJ4 hF4 hC HFl c0 c3 hsz HF
      go_wp2
      go_loopw [3] (fun hv wx => ∃ n : Nat, 16 + 8 * K.length ≤ n ∧ n ≤ 256 ∧ Hid (ComAt w0 base gr fv qb gq A sec (.slice (some ⟨gl, 0, none⟩) K.length c) (putsR L K) w (hdr K) (wrN D A L K K.length).flush u2 K hv n wx)) (fun hv _ => 256 - lenV hv)
      case atStart => exact ⟨16 + 8 * K.length, Nat.le_refl _, by omega, hC4⟩
      case round =>
        obtain ⟨n, hn1, hn2, hC⟩ := hrel
        clear hC4
        obtain ⟨ha, hcap, hvv, hga⟩ := own_slice hC.out.h
        obtain ⟨gh, rfl⟩ := hga (by omega)
        subst hvv
        clear hga
        have hsz := hC.out.sz
        by_cases hn : n < 256
        · have hn' : (n : Int) < 256 := by omega
          have hbA : Below wr.heap.size wr (wr.alloc (.cells #[.int .u8 0] 5)) := (Below.refl _ _).alloc (Nat.le_refl _) _
          have hCA : Hid _ := hC.out.below hbA
          have hhA : Hid _ := hCA.out.h
          have hszA := hCA.out.sz
          have hnewA : Hid (∀ j, j < 1 → (wr.alloc (.cells #[.int .u8 0] 5)).cell? ⟨wr.heap.size, j, none⟩ = some (.int .u8 (hdr K (n + j)))) := by
            intro j hj
            obtain rfl : j = 0 := by omega
            rw [hdr_rest K (n + 0) (by omega)]
            unfold World.cell?
            rw [heap_alloc_new]
            rfl
          have hb1000 : n + 1 ≤ 1000000 := by omega
          clear hbA
          go_wp2_with (at_builtin; refine wpList_byts rfl _ _ rfl w.heap.size (.slice (some ⟨gh, 0, none⟩) n hcap) n (hdr K) rfl hhA wr.heap.size 1 1 rfl hnewA hb1000 hszA ?_)
          intro u7 w7 own7 grow7
          have hC7 : Hid _ := hCA.out.hd own7.out grow7
          obtain ⟨a7, c7, hv7, _⟩ := own_slice own7.out
          clear own7 grow7 hhA hnewA hCA hszA
          subst hv7
          go_wp2
          go_roundw
          case rel => exact ⟨n + 1, by omega, by omega, hC7⟩
          case measure => simp only [lenV]; omega
        · have hn' : ¬ (n : Int) < 256 := by omega
          obtain rfl : n = 256 := by omega
          have hC1 : Hid _ := hC.out.below (Below.refl _ _).drew
          obtain ⟨_, _, _, _, cur, hrow, hcsz, htk⟩ := ownsRow_slice hC1.out.h
          have HWr := (hC1.out.rj.write (by have := hC1.out.b; have := hC1.out.sz; omega) (by show ((wrN D A L K K.length).E ++ _).length ≤ _; rw [List.length_append, hdl]; simp; omega) A (by show A < (wrN D A L K K.length).s; rw [hds]; omega) gh 0 hcap (hdr K) (hdr_bd K) cur (0, 0) hrow (fun j hj => by
            have := byts_at (hdr K) 256 j hj
            rw [← htk, List.getElem?_take_of_lt (by omega), Array.getElem?_toList] at this
            rw [Nat.zero_add]
            exact this))
          have HHW : Hid _ := HWr
          have hQ1 : QAt wr.drew qb gq gr A sec (.slice (some ⟨gl, 0, none⟩) K.length c) (putsR L K) := hC1.out.q
          clear HWr hrow hcsz htk
          go_wp2_with fail
          refine wp_region_mix [false, false, false, false, false, false, false, false, false, true] (fun wx => QAt wx qb gq gr A sec (.slice (some ⟨gl, 0, none⟩) K.length c) (putsR L K)) (by kernel_rfl) (by kernel_rfl) hQ1 ?_
          refine m_move _ rfl (by rfl) ?_
          simp only [Act.put, List.setIfInBounds_toArray, List.set_cons_zero, List.set_cons_succ]
          refine m_value ?_ (by rfl) (fun w hw => ?_) ?_
          rotate_left
          · go_simp
            with_reducible rfl
          simp only [Act.put, List.setIfInBounds_toArray, List.set_cons_zero, List.set_cons_succ]
          refine m_value ?_ (by rfl) (fun w hw => ?_) ?_
          rotate_left
          · go_simp
            with_reducible rfl
          simp only [Act.put, List.setIfInBounds_toArray, List.set_cons_zero, List.set_cons_succ]
          refine m_value ?_ (by rfl) (fun w hw => ?_) ?_
          rotate_left
          · have hc := (hw.row.cell 0).trans (rfl : _ = some (Value.pointer (some ⟨gr, 0, none⟩)))
            go_simp
            with_reducible rfl
          simp only [Act.put, List.setIfInBounds_toArray, List.set_cons_zero, List.set_cons_succ]
          refine m_move _ rfl (by rfl) ?_
          simp only [Act.put, List.setIfInBounds_toArray, List.set_cons_zero, List.set_cons_succ]
          refine m_value ?_ (by rfl) (fun w hw => ?_) ?_
          rotate_left
          · go_simp
            with_reducible rfl
          simp only [Act.put, List.setIfInBounds_toArray, List.set_cons_zero, List.set_cons_succ]
          refine m_value ?_ (by rfl) (fun w hw => ?_) ?_
          rotate_left
          · go_simp
            with_reducible rfl
          simp only [Act.put, List.setIfInBounds_toArray, List.set_cons_zero, List.set_cons_succ]
          refine m_value ?_ (by rfl) (fun w hw => ?_) ?_
          rotate_left
          · have hc := (hw.row.cell 1).trans (rfl : _ = some (Value.int .i64 (A : Int)))
            go_simp
            with_reducible rfl
          simp only [Act.put, List.setIfInBounds_toArray, List.set_cons_zero, List.set_cons_succ]
          refine m_move _ rfl (by rfl) ?_
          simp only [Act.put, List.setIfInBounds_toArray, List.set_cons_zero, List.set_cons_succ]
          refine m_call (by rfl) 20 #[.pointer (some ⟨gr, 0, none⟩), .int .i64 (A : Int), .slice (some ⟨gh, 0, none⟩) 256 hcap] (by go_simp) (Calls.mono HHW.out fun e w4 ⟨he, hJ4, hF4⟩ => ⟨_, he, hC1.out.q.frR hF4, ?_⟩)
          simp only [Act.put, List.setIfInBounds_toArray, List.set_cons_zero, List.set_cons_succ]
          refine m_done ?_
          try simp only [Exit.then]
          have hC5 : Hid _ := hC1.out.disk hJ4 hF4
          clear hJ4 hF4 HHW hQ1 hC hC1 hsz
          have c0 := (hC5.out.q.row.cell 0).trans (rfl : _ = some (Value.pointer (some ⟨gr, 0, none⟩)))
          have HFl : Hid _ := hC5.out.rj.flush (by have := hC5.out.b; have := hC5.out.sz; omega) (by show (((wrN D A L K K.length).E ++ _) ++ _).length ≤ _; rw [List.length_append, List.length_append, hdl]; simp; omega)
          go_wp2_with fail
          refine Calls.mono HFl.out ?_
          rintro e w6 ⟨⟨ve6, rfl⟩, hJ6, hF6⟩
          have hC6 : Hid (ComAt w0 base gr fv qb gq A sec (.slice (some ⟨gl, 0, none⟩) K.length c) (putsR L K) w (hdr K) (hdD D A L K) u2 K (.slice (some ⟨gh, 0, none⟩) 256 hcap) 256 w6) := hC5.out.disk hJ6 hF6
          clear hJ6 hF6 HFl c0 hC5
          have hhl := hdD_len D A L K
          have hhs : (hdD D A L K).s = D.s := wrN_s D A L K K.length
          have HDo : Hid _ := rdo_ok hC6.out.rj (by have := hC6.out.b; have := hC6.out.sz; omega) (by rw [hhl]; omega) hC6.out.q (by rw [hhs]; exact hfit) hC6.out.nums hKl h31 (by rw [hhs]; exact HKS.out)
          go_wp2_with fail
          refine Calls.mono HDo.out ?_
          rintro e w7 ⟨⟨ve7, rfl⟩, hJ7, hF7⟩
          have hC7 : Hid (ComAt w0 base gr fv qb gq A sec (.slice (some ⟨gl, 0, none⟩) K.length c) (putsR L K) w (hdr K) (comD D A L K) u2 K (.slice (some ⟨gh, 0, none⟩) 256 hcap) 256 w7) := hC6.out.disk hJ7 hF7
          clear hJ7 hF7 HDo hC6
          have c3 := (hC7.out.q.row.cell 3).trans (rfl : _ = some (Value.slice (some ⟨gl, 0, none⟩) K.length c))
          have hfz := hC7.out.q.row.frozen 3
          go_wp2
          refine bodyPost_end (results_none rfl _ _ _) rfl ?_
          exact ⟨⟨_, rfl⟩, w7, rfl, hC7.out.rj, hC7.out.q, hC7.out.fr⟩
end Go.Proofs.Ytlbapnecmhlgmaa
namespace Go.Proofs.Ytlbapnecmhlgmaa
open Go.RowKit

structure PairAt (w0 : World) (base gr : Nat) (fv : Value) (b0 g g1 c1 g2 c2 : Nat) (ev : Value) (D : Dk) (jb gj gm : Nat) (J : Jn) (qb gq : Nat) (lv : Value) (K : List Nat) (gp : Nat) (w : World) : Prop where
  row : Row w gp #[.pointer (some ⟨g, 0, none⟩), .pointer (some ⟨gr, 0, none⟩), .pointer (some ⟨gj, 0, none⟩), .pointer (some ⟨gq, 0, none⟩)] 39
  d : DiskAt w b0 g g1 c1 g2 c2 ev D
  j : JAt w jb gj gm g J
  r : RJ w0 base gr fv D w
  q : QAt w qb gq gr J.at' J.sec lv (putsR J.L K)
  keys : KeysOf J.L K
  b : base ≤ w.heap.size
section
variable {w0 : World} {base gr : Nat} {fv : Value} {b0 g g1 c1 g2 c2 : Nat} {ev : Value} {D : Dk} {jb gj gm : Nat} {J : Jn} {qb gq : Nat} {lv : Value} {K : List Nat} {gp : Nat} {w : World}
theorem PairAt.below (h : PairAt w0 base gr fv b0 g g1 c1 g2 c2 ev D jb gj gm J qb gq lv K gp w) {w' : World} (hb : Below w.heap.size w w') : PairAt w0 base gr fv b0 g g1 c1 g2 c2 ev D jb gj gm J qb gq lv K gp w' :=
  ⟨(hb.block _ h.row.lt).trans h.row, h.d.below hb (Nat.le_refl _), h.j.below hb, h.r.below hb h.b, h.q.below hb, h.keys, Nat.le_trans h.b hb.size⟩
end
end Go.Proofs.Ytlbapnecmhlgmaa
namespace Go.Proofs.Ytlbapnecmhlgmaa
open Go.RowKit
section
variable {w0 : World} {base gr : Nat} {fv : Value} {b0 g g1 c1 g2 c2 : Nat} {ev : Value} {D : Dk} {jb gj gm : Nat} {J : Jn} {qb gq : Nat} {lv : Value} {K : List Nat} {gp : Nat} {w : World}
theorem PairAt.rget (h : PairAt w0 base gr fv b0 g g1 c1 g2 c2 ev D jb gj gm J qb gq lv K gp w) (hL : D.E.length ≤ 900000) (hK12 : J.L.length ≤ 12) (n : Nat) (hn : n < D.s) :
    Calls Try.prog 50 #[.pointer (some ⟨gq, 0, none⟩), .int .i64 n] w fun e w' => e = .returned (.tuple #[.string (sStr (seen J D n)), .int .i64 0]) ∧ w' = w := by
  have hl := h.keys.len
  by_cases hm : n ∈ K
  · obtain ⟨k, hk, e⟩ := List.mem_iff_getElem.1 hm
    have e2 : K.getD k 0 = n := by simp [List.getD, List.getElem?_eq_getElem hk, e]
    have := rget_put h.q h.keys.up (by omega) k hk
    rw [e2] at this
    have hs : seen J D n = lookD J.L n := by
      unfold seen lookD
      cases hx : lookL J.L n with
      | none =>
        have := lookL_mem.2 ((h.keys.mem n).1 hm)
        rw [hx] at this
        cases this
      | some f => rfl
    rw [hs]
    exact this
  · have := rget_disk h.r hL h.q (by omega) n hn hm
    have hs : seen J D n = secF D.B n := by
      unfold seen
      cases hx : lookL J.L n with
      | none => rfl
      | some f => exact absurd ((h.keys.mem n).2 (lookL_mem.1 (by rw [hx]; rfl))) hm
    rw [hs]
    exact this
theorem up_uniq : ∀ (K K' : List Nat), K.Pairwise (· < ·) → K'.Pairwise (· < ·) → (∀ k, k ∈ K ↔ k ∈ K') → K = K'
  | [], [], _, _, _ => rfl
  | [], b :: K', _, _, h => absurd ((h b).2 List.mem_cons_self) (by simp)
  | a :: K, [], _, _, h => absurd ((h a).1 List.mem_cons_self) (by simp)
  | a :: K, b :: K', h1, h2, h => by
    have l1 := List.pairwise_cons.1 h1
    have l2 := List.pairwise_cons.1 h2
    have hab : a = b := by
      rcases List.mem_cons.1 ((h a).1 List.mem_cons_self) with e | e
      · exact e
      · rcases List.mem_cons.1 ((h b).2 List.mem_cons_self) with e' | e'
        · exact e'.symm
        · have x1 := l2.1 a e
          have x2 := l1.1 b e'
          omega
    subst hab
    congr 1
    refine up_uniq K K' l1.2 l2.2 fun k => ⟨fun hk => ?_, fun hk => ?_⟩
    · rcases List.mem_cons.1 ((h k).1 (List.mem_cons_of_mem _ hk)) with e | e
      · exact absurd (l1.1 k hk) (by omega)
      · exact e
    · rcases List.mem_cons.1 ((h k).2 (List.mem_cons_of_mem _ hk)) with e | e
      · exact absurd (l2.1 k hk) (by omega)
      · exact e
theorem KeysOf.uniq {L : List Pt} {K K' : List Nat} (h : KeysOf L K) (h' : KeysOf L K') : K' = K := up_uniq K' K h'.up h.up fun k => (h'.mem k).trans (h.mem k).symm
set_option maxRecDepth 20000 in
set_option maxHeartbeats 4000000 in
theorem same_yes (h : PairAt w0 base gr fv b0 g g1 c1 g2 c2 ev D jb gj gm J qb gq lv K gp w) (hL : D.E.length ≤ 900000) (hK12 : J.L.length ≤ 12) :
    Calls Try.prog 21 #[.pointer (some ⟨gp, 0, none⟩)] w fun e w' => e = .returned (.bool true) ∧ Below w.heap.size w w' := by
  have hDh := h.d.ok.hi
  obtain ⟨rv, Rr, Fl, r1, r2, _⟩ := h.r.ref
  obtain ⟨ra, rc, hrv, _⟩ := own_slice r1.evs
  obtain ⟨fa, fc, hfv, _⟩ := own_slice r1.first
  rw [r2.llen] at hrv
  rw [r2.len] at hfv
  obtain ⟨la, lc, hlv, hla⟩ := own_slice h.q.puts
  have hlen := putsR_len J.L K
  rw [hlen] at hlv hla
  have HP : Hid (∀ wx, Below w.heap.size w wx → PairAt w0 base gr fv b0 g g1 c1 g2 c2 ev D jb gj gm J qb gq lv K gp wx) := fun wx hb => h.below hb
  have hkl := h.keys.len
  have HKU : Hid (∀ K', KeysOf J.L K' → K' = K) := fun K' hk => h.keys.uniq hk
  have HC : Hid (∀ wx, Below w.heap.size w wx → wx.cell? ⟨gr, 0, none⟩ = some (.slice fa D.s fc) ∧ wx.cell? ⟨gr, 1, none⟩ = some (.slice ra D.E.length rc)) := fun wx hb => by
    have r := r1.below hb
    rw [← hrv, ← hfv]
    exact ⟨(r.row.cell 0).trans rfl, (r.row.cell 1).trans rfl⟩
  clear r1 r2 hrv
  have hB1 : Below w.heap.size w w.drew := (Below.refl _ _).drew
  have HEv : Hid _ := events_yes (HP.out w.drew hB1).d
  clear h
  go_enter Try.func21, Try.ntmps21
  go_wp2_with fail
  refine wp_region_permA [(false, 0), (false, 1), (false, 2), (false, 3), (false, 5), (false, 6), (false, 7), (false, 8), (false, 9), (false, 10), (false, 11), (false, 12), (true, 4), (false, 13)] (fun wx => Below w.heap.size w wx) (by kernel_rfl) (by kernel_rfl) hB1 ?_
  refine a_move (some 14) _ rfl rfl rfl (by rfl) ?_
  simp only [Act.put, List.setIfInBounds_toArray, List.set_cons_zero, List.set_cons_succ]
  refine a_value (some 15) ?_ rfl rfl (by rfl) (fun w hw => ?_) ?_
  rotate_left
  · go_simp
    with_reducible rfl
  simp only [Act.put, List.setIfInBounds_toArray, List.set_cons_zero, List.set_cons_succ]
  refine a_value (some 16) ?_ rfl rfl (by rfl) (fun w hw => ?_) ?_
  rotate_left
  · go_simp
    with_reducible rfl
  simp only [Act.put, List.setIfInBounds_toArray, List.set_cons_zero, List.set_cons_succ]
  refine a_value (some 17) ?_ rfl rfl (by rfl) (fun w hw => ?_) ?_
  rotate_left
  · have hc := ((HP.out _ hw).row.cell 0).trans (rfl : _ = some (Value.pointer (some ⟨g, 0, none⟩)))
    go_simp
    with_reducible rfl
  simp only [Act.put, List.setIfInBounds_toArray, List.set_cons_zero, List.set_cons_succ]
  refine a_move (some 19) _ rfl rfl rfl (by rfl) ?_
  simp only [Act.put, List.setIfInBounds_toArray, List.set_cons_zero, List.set_cons_succ]
  refine a_value (some 20) ?_ rfl rfl (by rfl) (fun w hw => ?_) ?_
  rotate_left
  · go_simp
    with_reducible rfl
  simp only [Act.put, List.setIfInBounds_toArray, List.set_cons_zero, List.set_cons_succ]
  refine a_value (some 21) ?_ rfl rfl (by rfl) (fun w hw => ?_) ?_
  rotate_left
  · go_simp
    with_reducible rfl
  simp only [Act.put, List.setIfInBounds_toArray, List.set_cons_zero, List.set_cons_succ]
  refine a_value (some 22) ?_ rfl rfl (by rfl) (fun w hw => ?_) ?_
  rotate_left
  · have hc := ((HP.out _ hw).row.cell 1).trans (rfl : _ = some (Value.pointer (some ⟨gr, 0, none⟩)))
    go_simp
    with_reducible rfl
  simp only [Act.put, List.setIfInBounds_toArray, List.set_cons_zero, List.set_cons_succ]
  refine a_value (some 23) ?_ rfl rfl (by rfl) (fun w hw => ?_) ?_
  rotate_left
  · go_simp
    with_reducible rfl
  simp only [Act.put, List.setIfInBounds_toArray, List.set_cons_zero, List.set_cons_succ]
  refine a_value (some 24) ?_ rfl rfl (by rfl) (fun w hw => ?_) ?_
  rotate_left
  · go_simp
    with_reducible rfl
  simp only [Act.put, List.setIfInBounds_toArray, List.set_cons_zero, List.set_cons_succ]
  refine a_value (some 25) ?_ rfl rfl (by rfl) (fun w hw => ?_) ?_
  rotate_left
  · have hc := (HC.out _ hw).2
    go_simp
    with_reducible rfl
  simp only [Act.put, List.setIfInBounds_toArray, List.set_cons_zero, List.set_cons_succ]
  refine a_value (some 26) ?_ rfl rfl (by rfl) (fun w hw => ?_) ?_
  rotate_left
  · go_simp
    with_reducible rfl
  simp only [Act.put, List.setIfInBounds_toArray, List.set_cons_zero, List.set_cons_succ]
  refine a_call (some 18) rfl rfl (by rfl) 26 #[.pointer (some ⟨g, 0, none⟩)] (by go_simp) (Calls.mono HEv.out fun e w' ⟨he, hw'⟩ => ⟨_, he, by rw [hw']; exact hB1, ?_⟩)
  subst hw'
  simp only [Act.put, List.setIfInBounds_toArray, List.set_cons_zero, List.set_cons_succ]
  refine a_value (some 27) ?_ rfl rfl (by rfl) (fun w hw => ?_) ?_
  rotate_left
  · go_simp
    with_reducible rfl
  simp only [Act.put, List.setIfInBounds_toArray, List.set_cons_zero, List.set_cons_succ]
  refine a_done ?_
  try simp only [Exit.then]
  clear HEv
  go_wp2_with fail
  go_loopw [3] (fun iv wx => ∃ i : Nat, i ≤ D.s ∧ iv = .int .i64 i ∧ Hid (Below w.heap.size w wx)) (fun iv _ => D.s - (intOf iv).toNat)
  case atStart => exact ⟨0, Nat.zero_le _, rfl, hB1⟩
  case round =>
    obtain ⟨i, hi, hiv, hB⟩ := hrel
    subst hiv
    have p1 := ((HP.out wr hB.out).row.cell 1).trans (rfl : _ = some (Value.pointer (some ⟨gr, 0, none⟩)))
    have cF := (HC.out wr hB.out).1
    by_cases hlt : i < D.s
    · have hlt' : (i : Int) < (D.s : Int) := by omega
      have p0 := ((HP.out wr hB.out).row.cell 0).trans (rfl : _ = some (Value.pointer (some ⟨g, 0, none⟩)))
      have HRd : Hid _ := read_ok (HP.out wr hB.out).d i hlt
      go_wp2_with fail
      refine Calls.mono HRd.out ?_
      rintro e w1 ⟨rfl, hw1⟩
      have hb1 : Below wr.heap.size wr w1 := by rw [hw1]; exact (Below.refl _ _).alloc (Nat.le_refl _) _
      have hx1 : Hid (∀ wx, Below w1.heap.size w1 wx → ∀ k, k < 256 → wx.cell? ⟨wr.heap.size, 0 + k, none⟩ = some (.int .u8 (secF D.B i k))) := by
        intro wx hbx k hk
        rw [World.cell?_of_block (hbx.block _ (by rw [hw1]; simp)), hw1, Nat.zero_add]
        unfold World.cell?
        rw [heap_alloc_new]
        have hby := byts_at (fun k => D.B (i * 256 + k)) 256 k hk
        simpa [secF] using hby
      have hB1w : Hid (Below w.heap.size w w1) := hB.out.trans (hb1.mono hB.out.size)
      generalize wr.heap.size = q1 at *
      clear HRd p0 p1 cF hb1 hw1
      have p1 := ((HP.out w1 hB1w.out).row.cell 1).trans (rfl : _ = some (Value.pointer (some ⟨gr, 0, none⟩)))
      have HRR : Hid _ := (HP.out w1 hB1w.out).r.read hL i hlt
      obtain ⟨T1, hT1⟩ : ∃ T1, T1 = sStr (secF D.B i) := ⟨_, rfl⟩
      obtain ⟨T2, hT2⟩ : ∃ T2, T2 = sStr (seen J D i) := ⟨_, rfl⟩
      rw [← hT1] at HRR
      go_wp2_with fail
      refine Calls.mono HRR.out ?_
      rintro e w2 ⟨rfl, hw2⟩
      subst hw2
      clear HRR p1
      have p2 := ((HP.out w2 hB1w.out).row.cell 2).trans (rfl : _ = some (Value.pointer (some ⟨gj, 0, none⟩)))
      have HG : Hid _ := get_ok (HP.out w2 hB1w.out).d (HP.out w2 hB1w.out).j i hlt
      go_wp2_with fail
      refine Calls.mono HG.out ?_
      rintro e w3 ⟨q3, t3, rfl, hq3, hrow3, hb3⟩
      have hB3w : Hid (Below w.heap.size w w3) := hB1w.out.trans (hb3.mono hB1w.out.size)
      have p3 := ((HP.out w3 hB3w.out).row.cell 3).trans (rfl : _ = some (Value.pointer (some ⟨gq, 0, none⟩)))
      have HRG : Hid _ := (HP.out w3 hB3w.out).rget hL hK12 i hlt
      rw [← hT2] at HRG
      clear HG p2
      go_wp2_with fail
      refine Calls.mono HRG.out ?_
      rintro e w4 ⟨rfl, hw4⟩
      subst hw4
      clear HRG p3
      have hcv1 : (convert 40 9 (.slice (some ⟨q1, 0, none⟩) 256 256)).run Try.prog w4 = .ok (.string T1) w4 := by rw [hT1]; exact conv256 w4 q1 0 256 _ (hx1.out w4 hb3)
      have hcv2 : (convert 40 9 (.slice (some ⟨q3, 0, none⟩) 256 256)).run Try.prog w4 = .ok (.string T2) w4 := by
        rw [hT2]
        exact conv256 w4 q3 0 256 _ (fun k hk => by
          rw [Nat.zero_add, hrow3.cell k]
          simpa using byts_at (seen J D i) 256 k hk)
      clear hx1 hrow3 hb3 hq3
      go_wp2
      go_roundw
      case rel => exact ⟨i + 1, by omega, by go_num, hB3w⟩
      case measure => simp [intOf]; omega
    · have hlt' : ¬ (i : Int) < (D.s : Int) := by omega
      have p2 := ((HP.out wr hB.out).row.cell 2).trans (rfl : _ = some (Value.pointer (some ⟨gj, 0, none⟩)))
      have HPe : Hid _ := pending_ok (HP.out wr hB.out).d (HP.out wr hB.out).j hK12
      go_wp2_with fail
      refine Calls.mono HPe.out ?_
      rintro e w1 ⟨v, K', rfl, hK', hN, hb1⟩
      obtain rfl := HKU.out K' hK'
      have hB1w : Hid (Below w.heap.size w w1) := hB.out.trans (hb1.mono hB.out.size)
      obtain ⟨na, nc, hv, hNI⟩ := hN.ex
      have HNI : Hid _ := hNI
      subst hv
      clear hN hNI hb1 HPe p2 p1 cF hK' HKU
      have p3 := ((HP.out w1 hB1w.out).row.cell 3).trans (rfl : _ = some (Value.pointer (some ⟨gq, 0, none⟩)))
      have c3 := ((HP.out w1 hB1w.out).q.row.cell 3).trans (rfl : _ = some lv)
      rw [hlv] at c3
      go_wp2
      go_loopw [13] (fun iv wx => ∃ j : Nat, j ≤ K'.length ∧ iv = .int .i64 j ∧ Hid (Below w1.heap.size w1 wx)) (fun iv _ => K'.length - (intOf iv).toNat)
      case atStart => exact ⟨0, Nat.zero_le _, rfl, Below.refl _ _⟩
      case round =>
        obtain ⟨j, hj, hjv, hBj⟩ := hrel
        subst hjv
        by_cases hjl : j < K'.length
        · have hjl' : (j : Int) < (K'.length : Int) := by omega
          obtain ⟨bn, hbn, _, hI⟩ := HNI.out (by omega)
          obtain ⟨gl, hgl⟩ := hla (by omega)
          subst hbn
          subst hgl
          have HI : Hid (∀ wx, Below w1.heap.size w1 wx → wx.cell? ⟨bn, j, none⟩ = some (.int .i64 (K'.getD j 0 : Nat))) := fun wx hb => (hI.keep (hb.block bn (World.block_lt_of_cell? _ _ (hI.cell 0 (by omega))))).cell j hjl
          obtain ⟨kn, hkn⟩ : ∃ kn, kn = K'.getD j 0 := ⟨_, rfl⟩
          rw [← hkn] at HI
          have HW : Hid (∀ wx, Below w1.heap.size w1 wx → Below w.heap.size w wx) := fun wx hb => hB1w.out.trans (hb.mono hB1w.out.size)
          have HCT : Hid (∀ wx, Below w1.heap.size w1 wx → wx.cell? ⟨gl, j * 2, none⟩ = some (.int .i64 (kn : Int))) := by
            intro wx hb
            have hq := (HP.out wx (HW.out wx hb)).q
            rw [hlv] at hq
            rw [hkn]
            exact (hq.putAt j _ (putsR_at J.L K' j hjl)).1
          have HC3 : Hid (∀ wx, Below w1.heap.size w1 wx → wx.cell? ⟨gq, 3, none⟩ = some (.slice (some ⟨gl, 0, none⟩) K'.length lc)) := by
            intro wx hb
            have hq := (HP.out wx (HW.out wx hb)).q
            rw [hlv] at hq
            exact (hq.row.cell 3).trans rfl
          have hBd : Below w1.heap.size w1 wr.drew := hBj.out.drew
          clear hI hkn c3 p3
          go_wp2_with fail
          refine wp_region_mix [false, false, false, false, false, false, false, false, false, false, false, false, false, false, false, false] (fun wx => Below w1.heap.size w1 wx) (by kernel_rfl) (by kernel_rfl) hBd ?_
          refine m_move _ rfl (by rfl) ?_
          simp only [Act.put, List.setIfInBounds_toArray, List.set_cons_zero, List.set_cons_succ]
          refine m_move _ rfl (by rfl) ?_
          simp only [Act.put, List.setIfInBounds_toArray, List.set_cons_zero, List.set_cons_succ]
          refine m_value ?_ (by rfl) (fun w hw => ?_) ?_
          rotate_left
          · go_simp
            with_reducible rfl
          simp only [Act.put, List.setIfInBounds_toArray, List.set_cons_zero, List.set_cons_succ]
          refine m_value ?_ (by rfl) (fun w hw => ?_) ?_
          rotate_left
          · have hc := HI.out _ hw
            go_simp
            with_reducible rfl
          simp only [Act.put, List.setIfInBounds_toArray, List.set_cons_zero, List.set_cons_succ]
          refine m_move _ rfl (by rfl) ?_
          simp only [Act.put, List.setIfInBounds_toArray, List.set_cons_zero, List.set_cons_succ]
          refine m_value ?_ (by rfl) (fun w hw => ?_) ?_
          rotate_left
          · go_simp
            with_reducible rfl
          simp only [Act.put, List.setIfInBounds_toArray, List.set_cons_zero, List.set_cons_succ]
          refine m_value ?_ (by rfl) (fun w hw => ?_) ?_
          rotate_left
          · go_simp
            with_reducible rfl
          simp only [Act.put, List.setIfInBounds_toArray, List.set_cons_zero, List.set_cons_succ]
          refine m_value ?_ (by rfl) (fun w hw => ?_) ?_
          rotate_left
          · have hc := ((HP.out _ (HW.out _ hw)).row.cell 3).trans (rfl : _ = some (Value.pointer (some ⟨gq, 0, none⟩)))
            go_simp
            with_reducible rfl
          simp only [Act.put, List.setIfInBounds_toArray, List.set_cons_zero, List.set_cons_succ]
          refine m_value ?_ (by rfl) (fun w hw => ?_) ?_
          rotate_left
          · go_simp
            with_reducible rfl
          simp only [Act.put, List.setIfInBounds_toArray, List.set_cons_zero, List.set_cons_succ]
          refine m_value ?_ (by rfl) (fun w hw => ?_) ?_
          rotate_left
          · go_simp
            with_reducible rfl
          simp only [Act.put, List.setIfInBounds_toArray, List.set_cons_zero, List.set_cons_succ]
          refine m_value ?_ (by rfl) (fun w hw => ?_) ?_
          rotate_left
          · have hc := HC3.out _ hw
            go_simp
            with_reducible rfl
          simp only [Act.put, List.setIfInBounds_toArray, List.set_cons_zero, List.set_cons_succ]
          refine m_move _ rfl (by rfl) ?_
          simp only [Act.put, List.setIfInBounds_toArray, List.set_cons_zero, List.set_cons_succ]
          refine m_value ?_ (by rfl) (fun w hw => ?_) ?_
          rotate_left
          · go_simp
            with_reducible rfl
          simp only [Act.put, List.setIfInBounds_toArray, List.set_cons_zero, List.set_cons_succ]
          refine m_value ?_ (by rfl) (fun w hw => ?_) ?_
          rotate_left
          · go_simp
            with_reducible rfl
          simp only [Act.put, List.setIfInBounds_toArray, List.set_cons_zero, List.set_cons_succ]
          refine m_value ?_ (by rfl) (fun w hw => ?_) ?_
          rotate_left
          · have hc := HCT.out _ hw
            go_simp
            with_reducible rfl
          simp only [Act.put, List.setIfInBounds_toArray, List.set_cons_zero, List.set_cons_succ]
          refine m_value ?_ (by rfl) (fun w hw => ?_) ?_
          rotate_left
          · go_simp
            with_reducible rfl
          simp only [Act.put, List.setIfInBounds_toArray, List.set_cons_zero, List.set_cons_succ]
          refine m_done ?_
          try simp only [Exit.then]
          go_wp2
          go_roundw
          case rel => exact ⟨j + 1, by omega, by go_num, hBd⟩
          case measure => simp [intOf]; omega
        · have hjl' : ¬ (j : Int) < (K'.length : Int) := by omega
          have hBf : Below w.heap.size w wr := hB1w.out.trans (hBj.out.mono hB1w.out.size)
          go_wp2
          go_ret
          exact ⟨rfl, hBf⟩
end
end Go.Proofs.Ytlbapnecmhlgmaa
