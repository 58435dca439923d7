/- The walk of loses: a power loss on both sides, and Open. What stays where rows of certain types change; the pair as the law keeps it. The law's acts on both sides: Put, Commit, Abort, the disk's Write. -/
import Derived.Test.YtlbapnecmhlgmaaM21
namespace Go.Proofs.Ytlbapnecmhlgmaa
open Go.RowKit

/-- The pair behind a power loss, all of it in memory from B on. -/
def Lost (B s A sec gp : Nat) (w w' : World) : Prop := ∃ gr fv g g1 c1 g2 c2 ev D gj gm gq lv, PairAt w' B gr fv B g g1 c1 g2 c2 ev D B gj gm ⟨A, sec, []⟩ B gq lv [] gp w' ∧ D.s = s ∧ D.E.length ≤ 40 ∧ Below gp w w'
theorem keys_nil : KeysOf [] [] := ⟨List.Pairwise.nil, fun _ => by simp, rfl⟩
theorem PairAt.moved {w5 W : World} {B gr : Nat} {fv : Value} {g g1 c1 g2 c2 : Nat} {ev : Value} {D : Dk} {gj gm A sec gq : Nat} {lv : Value} {gp : Nat} {C : Array Value} (hk : ∀ k, k ≠ gp → W.heap[k]? = w5.heap[k]?) (h5 : Row w5 gp C 39)
    (hrow : Row W gp #[.pointer (some ⟨g, 0, none⟩), .pointer (some ⟨gr, 0, none⟩), .pointer (some ⟨gj, 0, none⟩), .pointer (some ⟨gq, 0, none⟩)] 39) (hD : DiskAt w5 B g g1 c1 g2 c2 ev D) (hJ : JAt w5 B gj gm g ⟨A, sec, []⟩) (hR : RJ w5 B gr fv D w5) (hQ : QAt w5 B gq gr A sec lv []) (hB : B ≤ gp) :
    PairAt W B gr fv B g g1 c1 g2 c2 ev D B gj gm ⟨A, sec, []⟩ B gq lv [] gp W := by
  have key : ∀ k C t, Row w5 k C t → t ≠ 39 → W.heap[k]? = w5.heap[k]? := fun k C t hr ht => hk k (row_ne hr h5 ht)
  obtain ⟨rv, R, Fl, h1, h2, h3⟩ := hR.ref
  obtain ⟨es, clock, m1, _⟩ := hJ.map.ex
  refine ⟨hrow, hD.keepT fun k C t hr ht => key k C t hr (by rcases ht with h | h | h <;> subst h <;> decide), hJ.keep (key _ _ _ hJ.row (by decide)) (hk gm (hJ.map.row_ne h5)), ⟨⟨rv, R, Fl, ?_, h2, h3⟩, hR.ok, FrR.refl _, Below.refl _ _⟩,
    hQ.keepT fun k C t hr ht => key k C t hr (by rcases ht with h | h <;> subst h <;> decide), keys_nil, Nat.le_of_lt (Nat.lt_of_le_of_lt hB hrow.lt)⟩
  refine h1.keep fun k hk => ?_
  rcases hk with rfl | hk | hk
  · exact key _ _ _ h1.row (by decide)
  · obtain ⟨_, _, cur, hr⟩ := ownsRow_lt h1.first k hk
    exact key _ _ _ hr (by decide)
  · obtain ⟨_, _, cur, hr⟩ := ownsRow_lt h1.evs k hk
    exact key _ _ _ hr (by decide)
section
variable {w0 : World} {base gr : Nat} {fv : Value} {b0 g g1 c1 g2 c2 : Nat} {ev : Value} {D : Dk} {jb gj gm : Nat} {J : Jn} {qb gq : Nat} {lv : Value} {K : List Nat} {gp : Nat} {w : World}
theorem PairAt.cells (h : PairAt w0 base gr fv b0 g g1 c1 g2 c2 ev D jb gj gm J qb gq lv K gp w) : w.cell? ⟨gp, 0, none⟩ = some (.pointer (some ⟨g, 0, none⟩)) ∧ w.cell? ⟨gp, 1, none⟩ = some (.pointer (some ⟨gr, 0, none⟩)) ∧ w.cell? ⟨gp, 2, none⟩ = some (.pointer (some ⟨gj, 0, none⟩)) ∧ w.cell? ⟨gp, 3, none⟩ = some (.pointer (some ⟨gq, 0, none⟩)) :=
  ⟨(h.row.cell 0).trans rfl, (h.row.cell 1).trans rfl, (h.row.cell 2).trans rfl, (h.row.cell 3).trans rfl⟩

set_option maxRecDepth 20000 in
set_option maxHeartbeats 4000000 in
theorem loses_yes (h : PairAt w0 base gr fv b0 g g1 c1 g2 c2 ev D jb gj gm J qb gq lv K gp w) (hL : D.E.length ≤ 100000) (X : ActD) (hX : X.In w) (A sec : Nat) (h2 : 2 ≤ sec) (h31 : sec ≤ 31) (hfit : A + sec ≤ D.s) (B : Nat) (hB : B ≤ gp) :
    Calls Try.prog 18 #[.pointer (some ⟨gp, 0, none⟩), .agg X.cells, .int .i64 A, .int .i64 sec] w fun e w' => e = .returned (.bool true) ∧ Hid (Lost B D.s A sec gp w w') := by
  have hbB : Below w.heap.size w (w.alloc (.cells X.cells 43)) := (Below.refl _ _).alloc (Nat.le_refl _) _
  have hR := Row.new w X.cells 43
  have hP := h.below hbB
  have hXB := hX.below hbB
  have hgp := h.row.lt
  have hwB : w.heap.size < (w.alloc (.cells X.cells 43)).heap.size := hR.lt
  have a2 : X.cells[2]? = some (.int .i64 X.back) := rfl
  have a5 : X.cells[5]? = some (.slice X.ka X.klen X.kcap) := rfl
  have hbk := hX.back
  have hkl := hX.klen
  have HKN : Hid _ := hX.knil
  have hDs := h.d.ok.hi
  obtain ⟨rv, Rr, Fl, r1, r2, _⟩ := hP.r.ref
  obtain ⟨ra, rc, hrv, _⟩ := own_slice r1.evs
  rw [r2.llen] at hrv
  have cL := (r1.row.cell 1).trans (rfl : _ = some rv)
  rw [hrv] at cL
  have c1' := hP.cells.2.1
  have k2 := (hR.cell 2).trans a2
  obtain ⟨q, p, hq, hq1, hq2, hp, hpm⟩ := mod_spec D.E.length X.back
  obtain ⟨m, hm⟩ : ∃ m, m = D.E.length := ⟨_, rfl⟩
  rw [← hm] at hq hq1 hq2 hp hpm cL hL
  have HM : Hid _ := hm
  obtain ⟨C, hC⟩ : ∃ C, C = X.cells := ⟨_, rfl⟩
  rw [← hC] at hbB hR hP hXB hwB k2 a5 r1 cL c1' ⊢
  have HbB : Hid _ := hbB
  have HP : Hid _ := hP
  have HR : Hid _ := hR
  have HX : Hid (X.In (w.alloc (.cells C 43))) := hXB
  clear hm hC r1 r2 hrv h hX hP hXB hbB hR a2
  have e1 : IntKind.i64.wrap ((m : Int) + 1) = (m : Int) + 1 := by rw [IntKind.wrap_i64]; omega
  have e2 : IntKind.i64.wrap (X.back.tmod ((m : Int) + 1)) = q := by rw [hq, IntKind.wrap_i64]; omega
  have e3 : IntKind.i64.wrap (q + (m : Int)) = q + m := by rw [IntKind.wrap_i64]; omega
  have e4 : IntKind.i64.wrap (q + (m : Int) + 1) = q + m + 1 := by rw [IntKind.wrap_i64]; omega
  have e5 : IntKind.i64.wrap ((q + (m : Int) + 1).tmod ((m : Int) + 1)) = p := by rw [hp, IntKind.wrap_i64]; omega
  have e6 : IntKind.i64.wrap ((m : Int) - (p : Int)) = ((m - p : Nat) : Int) := by rw [IntKind.wrap_i64]; omega
  have hz : ¬ (m : Int) + 1 = 0 := by omega
  go_enter Try.func18, Try.ntmps18
  go_wp2_with fail
  obtain ⟨k, hk⟩ : ∃ k, k = m - p := ⟨_, rfl⟩
  rw [← hk]
  have hkm : k ≤ D.E.length := by rw [← HM.out]; omega
  have hDL : D.E.length ≤ 100000 := by rw [← HM.out]; exact hL
  clear e1 e2 e3 e4 e5 e6 hz hq hq1 hq2 hp hpm hk cL c1' k2 hbk
  obtain ⟨wB, hwBe⟩ : ∃ wB, wB = w.alloc (.cells C 43) := ⟨_, rfl⟩
  rw [← hwBe] at HbB HP HR HX hwB ⊢
  clear hwBe
  have hBd : Below wB.heap.size wB wB.drew := (Below.refl _ _).drew
  have HC : Hid (∀ wx, Below wB.heap.size wB wx → wx.cell? ⟨gp, 0, none⟩ = some (.pointer (some ⟨g, 0, none⟩)) ∧ wx.cell? ⟨gp, 1, none⟩ = some (.pointer (some ⟨gr, 0, none⟩)) ∧ wx.cell? ⟨w.heap.size, 5, none⟩ = some (.slice X.ka X.klen X.kcap)) := fun wx hb => by
    have hp := (HP.out.below hb).cells
    exact ⟨hp.1, hp.2.1, (((Row.below HR.out hb hwB).cell 5)).trans a5⟩
  refine wp_region_permA [(false, 0), (false, 1), (false, 2), (false, 3), (false, 4), (false, 6), (false, 7), (true, 5), (true, 8), (true, 9), (false, 10), (false, 11), (false, 12), (false, 13), (false, 14)] (fun wx => Below wB.heap.size wB wx) (by kernel_rfl) (by kernel_rfl) hBd ?_
  refine a_move (some 40) _ rfl rfl rfl (by rfl) ?_
  simp only [Act.put, List.setIfInBounds_toArray, List.set_cons_zero, List.set_cons_succ]
  refine a_value (some 41) ?_ rfl rfl (by rfl) (fun w hw => ?_) ?_
  rotate_left
  · go_simp
    with_reducible rfl
  simp only [Act.put, List.setIfInBounds_toArray, List.set_cons_zero, List.set_cons_succ]
  refine a_value (some 42) ?_ rfl rfl (by rfl) (fun w hw => ?_) ?_
  rotate_left
  · go_simp
    with_reducible rfl
  simp only [Act.put, List.setIfInBounds_toArray, List.set_cons_zero, List.set_cons_succ]
  refine a_value (some 43) ?_ rfl rfl (by rfl) (fun w hw => ?_) ?_
  rotate_left
  · have hc := (HC.out _ hw).1
    go_simp
    with_reducible rfl
  simp only [Act.put, List.setIfInBounds_toArray, List.set_cons_zero, List.set_cons_succ]
  refine a_move (some 44) _ rfl rfl rfl (by rfl) ?_
  simp only [Act.put, List.setIfInBounds_toArray, List.set_cons_zero, List.set_cons_succ]
  refine a_value (some 46) ?_ rfl rfl (by rfl) (fun w hw => ?_) ?_
  rotate_left
  · go_simp
    with_reducible rfl
  simp only [Act.put, List.setIfInBounds_toArray, List.set_cons_zero, List.set_cons_succ]
  refine a_value (some 47) ?_ rfl rfl (by rfl) (fun w hw => ?_) ?_
  rotate_left
  · have hc := (HC.out _ hw).2.2
    go_simp
    with_reducible rfl
  simp only [Act.put, List.setIfInBounds_toArray, List.set_cons_zero, List.set_cons_succ]
  refine a_alone (some 45) (.slice (some ⟨wB.drew.heap.size, 0, none⟩) 0 0) (wB.drew.alloc (.cells #[] 4)) rfl rfl (by rfl) (by kernel_rfl) (hBd.alloc hBd.size _) ?_
  simp only [Act.put, List.setIfInBounds_toArray, List.set_cons_zero, List.set_cons_succ]
  refine a_wp rfl (by rfl) ?_
  refine wp_append_bools (.tmp 45) (.tmp 47) rfl wB.drew rfl (by go_simp) X.ka X.kb X.koff X.klen X.kcap X.kf (by go_simp) (HX.out.keep.belowAll hBd) HKN.out hkl ?_
  intro k1 b1 kc1 w1 hb1 hbl1
  have hb1 : Below wB.heap.size wB w1 := hBd.trans (hb1.mono hBd.size)
  refine ⟨hb1, ?_⟩
  simp only [Act.put, List.setIfInBounds_toArray]
  have HAf : Hid _ := after_ok (HP.out.below hb1).d k hkm (by omega) k1 b1 0 X.klen kc1 X.kf hbl1 hkl
  refine a_call (some 49) rfl rfl (by rfl) 27 #[.pointer (some ⟨g, 0, none⟩), .int .i64 k, .slice k1 X.klen kc1] (by go_simp) (Calls.mono HAf.out ?_)
  rintro e w2 ⟨g', g1', c1', g2', c2', rfl, hD2, hb2⟩
  have hb2' : Below wB.heap.size wB w2 := hb1.trans (hb2.mono hb1.size)
  refine ⟨_, rfl, hb2', ?_⟩
  have HD2 : Hid _ := hD2
  have HB2 : Hid _ := hb2'
  have hs12 := hb1.size
  clear HAf hbl1 hD2 hb2 hb2'
  simp only [Act.put]
  refine a_move (some 39) _ rfl rfl rfl (by rfl) ?_
  simp only [Act.put]
  refine a_value (some 50) ?_ rfl rfl (by rfl) (fun w hw => ?_) ?_
  rotate_left
  · go_simp
    with_reducible rfl
  simp only [Act.put]
  refine a_value (some 51) ?_ rfl rfl (by rfl) (fun w hw => ?_) ?_
  rotate_left
  · go_simp
    with_reducible rfl
  simp only [Act.put]
  refine a_value (some 11) ?_ rfl rfl (by rfl) (fun w hw => ?_) ?_
  rotate_left
  · go_simp
    with_reducible rfl
  simp only [Act.put]
  refine a_value (some 12) ?_ rfl rfl (by rfl) (fun w hw => ?_) ?_
  rotate_left
  · go_simp
    with_reducible rfl
  simp only [Act.put]
  refine a_done ?_
  try simp only [Exit.then]
  clear hb1 hBd
  have hw1 : Hid (wB.heap.size ≤ w1.heap.size) := hs12
  clear hs12
  have hBd2 : Below wB.heap.size wB w2.drew := HB2.out.drew
  have HRf : Hid _ := rafter_ok (HP.out.below hBd2).r k hkm (by omega) X.ka X.kb X.koff X.klen X.kcap X.kf (HX.out.keep.belowAll hBd2) hkl (by have := HD2.out.ok; exact this)
  go_wp2_with fail
  refine wp_region_mix [false, false, false, false, false, false, false, true, false, false, false, false, false] (fun wx => Below wB.heap.size wB wx) (by kernel_rfl) (by kernel_rfl) hBd2 ?_
  refine m_move _ rfl (by rfl) ?_
  simp only [Act.put, List.setIfInBounds_toArray, List.set_cons_zero, List.set_cons_succ]
  refine m_value ?_ (by rfl) (fun w hw => ?_) ?_
  rotate_left
  · go_simp
    with_reducible rfl
  simp only [Act.put, List.setIfInBounds_toArray, List.set_cons_zero, List.set_cons_succ]
  refine m_value ?_ (by rfl) (fun w hw => ?_) ?_
  rotate_left
  · go_simp
    with_reducible rfl
  simp only [Act.put, List.setIfInBounds_toArray, List.set_cons_zero, List.set_cons_succ]
  refine m_value ?_ (by rfl) (fun w hw => ?_) ?_
  rotate_left
  · have hc := (HC.out _ hw).2.1
    go_simp
    with_reducible rfl
  simp only [Act.put, List.setIfInBounds_toArray, List.set_cons_zero, List.set_cons_succ]
  refine m_move _ rfl (by rfl) ?_
  simp only [Act.put, List.setIfInBounds_toArray, List.set_cons_zero, List.set_cons_succ]
  refine m_value ?_ (by rfl) (fun w hw => ?_) ?_
  rotate_left
  · go_simp
    with_reducible rfl
  simp only [Act.put, List.setIfInBounds_toArray, List.set_cons_zero, List.set_cons_succ]
  refine m_value ?_ (by rfl) (fun w hw => ?_) ?_
  rotate_left
  · have hc := (HC.out _ hw).2.2
    go_simp
    with_reducible rfl
  simp only [Act.put, List.setIfInBounds_toArray, List.set_cons_zero, List.set_cons_succ]
  refine m_call (by rfl) 45 #[.pointer (some ⟨gr, 0, none⟩), .int .i64 k, .slice X.ka X.klen X.kcap] (by go_simp) (Calls.mono HRf.out ?_)
  rintro e w3 ⟨gr', fv', rfl, hR3, hb3⟩
  have hb3' : Below wB.heap.size wB w3 := hBd2.trans (hb3.mono hBd2.size)
  refine ⟨_, rfl, hb3', ?_⟩
  have HD3 : Hid _ := (HD2.out.below (w' := w2.drew) (Below.refl w2.heap.size w2).drew (Nat.le_refl _)).below hb3 (Nat.le_refl _)
  have HR3 : Hid _ := hR3
  have HB3 : Hid _ := hb3'
  have hs3 : Hid (w1.heap.size ≤ w3.heap.size) := by
    have x1 := HD2.out.ge
    have x2 := HD2.out.row.lt
    have x3 := hb3.size
    have x4 : w2.drew.heap.size = w2.heap.size := rfl
    show _ ≤ _
    omega
  have hs23 : Hid (wB.heap.size ≤ w2.drew.heap.size ∧ w2.drew.heap.size ≤ w3.heap.size) := ⟨hBd2.size, hb3.size⟩
  clear HRf hR3 hb3 hb3' HD2 HB2 hBd2
  simp only [Act.put, List.setIfInBounds_toArray, List.set_cons_zero, List.set_cons_succ]
  refine m_move _ rfl (by rfl) ?_
  simp only [Act.put, List.setIfInBounds_toArray, List.set_cons_zero, List.set_cons_succ]
  refine m_value ?_ (by rfl) (fun w hw => ?_) ?_
  rotate_left
  · go_simp
    with_reducible rfl
  simp only [Act.put, List.setIfInBounds_toArray, List.set_cons_zero, List.set_cons_succ]
  refine m_value ?_ (by rfl) (fun w hw => ?_) ?_
  rotate_left
  · go_simp
    with_reducible rfl
  simp only [Act.put, List.setIfInBounds_toArray, List.set_cons_zero, List.set_cons_succ]
  refine m_value ?_ (by rfl) (fun w hw => ?_) ?_
  rotate_left
  · go_simp
    with_reducible rfl
  simp only [Act.put, List.setIfInBounds_toArray, List.set_cons_zero, List.set_cons_succ]
  refine m_value ?_ (by rfl) (fun w hw => ?_) ?_
  rotate_left
  · go_simp
    with_reducible rfl
  simp only [Act.put, List.setIfInBounds_toArray, List.set_cons_zero, List.set_cons_succ]
  refine m_done ?_
  try simp only [Exit.then]
  have hDs3 : (D.after k X.klen X.kf).s = D.s := rfl
  have hE3 : (D.after k X.klen X.kf).E.length = 0 := rfl
  have HOp : Hid _ := open_any HD3.out hs3.out (by rw [hE3]; omega) A sec h2 h31 (by rw [hDs3]; exact hfit)
  clear HC
  go_wp2_with fail
  refine Calls.mono HOp.out ?_
  rintro e w4 ⟨gj', gm', ev', D4, rfl, hO4, hT4, hJ4, hF4, hb4⟩
  have hB4 : Below wB.heap.size wB w4 := HB3.out.trans (hb4.mono hw1.out)
  have HR4 : Hid _ := RJ.ro HR3.out (Ro.of_fr hF4)
  have HT4 : Hid _ := hT4
  have HJ4 : Hid _ := hJ4
  have HO4 : Hid (opened (D.after k X.klen X.kf) A sec D4) := hO4
  have HB4 : Hid _ := hB4
  have hs4 : Hid (w2.drew.heap.size ≤ w4.heap.size ∧ w3.heap.size ≤ w4.heap.size) := ⟨Nat.le_trans hs23.out.2 hb4.size, hb4.size⟩
  have HRo : Hid _ := ropen_ok HR4.out hs4.out.1 (by rw [hE3]; omega) A sec h2 h31 (by rw [hDs3]; exact hfit)
  clear HOp hO4 hT4 hJ4 hF4 hb4 hB4 HD3 HR3 HR4 HB3
  go_wp2_with fail
  refine Calls.mono HRo.out ?_
  rintro e w5 ⟨gq', D5, rfl, hO5, hR5, hQ5, hF5⟩
  obtain rfl := opened_uniq HO4.out hO5
  have HB5 : Hid (Below wB.heap.size wB w5) := HB4.out.trans (hR5.old.mono hs23.out.1)
  have HD5 : Hid _ := HT4.out.disk.frR hF5
  have HJ5 : Hid _ := JAt.frR HJ4.out hF5
  have HR5 : Hid _ := hR5.self
  have HQ5 : Hid _ := hQ5
  have hRow5 := (HP.out.below HB5.out).row
  have hs5 : w4.heap.size ≤ w5.heap.size := hF5.size
  have HS5 : Hid (w.heap.size ≤ w1.heap.size ∧ w.heap.size ≤ w3.heap.size ∧ w.heap.size ≤ w4.heap.size ∧ w.heap.size ≤ w2.drew.heap.size ∧ w.heap.size ≤ w5.heap.size ∧ w2.drew.heap.size ≤ w5.heap.size) := by
    have x1 := hw1.out
    have x2 := hs3.out
    have x3 := hs4.out
    have x4 := hs23.out
    exact ⟨by omega, by omega, by omega, by omega, by omega, by omega⟩
  clear HRo hO5 hR5 hQ5 hF5 HT4 HJ4 HB4 HP HX HR hs5 hs4 hs3 hs23 hw1 HKN a5
  have R1 := hRow5.setCell (i := 0) (.pointer (some ⟨g', 0, none⟩))
  have R2 := R1.setCell (i := 1) (.pointer (some ⟨gr', 0, none⟩))
  have R3 := R2.setCell (i := 2) (.pointer (some ⟨gj', 0, none⟩))
  have R4 := R3.setCell (i := 3) (.pointer (some ⟨gq', 0, none⟩))
  have p0 := (hRow5.cell 0).trans (rfl : _ = some (Value.pointer (some ⟨g, 0, none⟩)))
  have p1 := (R1.cell 1).trans (rfl : _ = some (Value.pointer (some ⟨gr, 0, none⟩)))
  have p2 := (R2.cell 2).trans (rfl : _ = some (Value.pointer (some ⟨gj, 0, none⟩)))
  have p3 := (R3.cell 3).trans (rfl : _ = some (Value.pointer (some ⟨gq, 0, none⟩)))
  have f0 := hRow5.frozen 0
  have f1 := R1.frozen 1
  have f2 := R2.frozen 2
  have f3 := R3.frozen 3
  have HR0 : Hid _ := hRow5
  have HR4 : Hid _ := R4
  clear hRow5 R1 R2 R3 R4
  go_wp2
  go_ret
  refine ⟨rfl, gr', fv', g', g1', c1', g2', c2', ev', D4, gj', gm', gq', _, PairAt.moved (fun q hq => ?_) HR0.out ?_ (HD5.out.base ?_) (HJ5.out.base ?_) (HR5.out.base' ?_) (HQ5.out.base ?_) ?_, ?_, ?_, ?_⟩
  · rw [heap_setCell_other _ ⟨gp, 3, none⟩ q _ hq, heap_setCell_other _ ⟨gp, 2, none⟩ q _ hq, heap_setCell_other _ ⟨gp, 1, none⟩ q _ hq, heap_setCell_other _ ⟨gp, 0, none⟩ q _ hq]
  · exact HR4.out
  · have := HS5.out; omega
  · have := HS5.out; omega
  · have := HS5.out; omega
  · have := HS5.out; omega
  · have := HS5.out; omega
  · exact (opened_len HO4.out h31).2
  · have := (opened_len HO4.out h31).1
    rw [hE3] at this
    omega
  · have hb5 : Below gp w w5 := (HbB.out.trans (HB5.out.mono (Nat.le_of_lt hwB))).mono (Nat.le_of_lt hgp)
    exact hb5.trans ⟨rfl, rfl, rfl, by simp, fun q hq => by have hq := Nat.ne_of_lt hq; rw [heap_setCell_other _ ⟨gp, 3, none⟩ q _ hq, heap_setCell_other _ ⟨gp, 2, none⟩ q _ hq, heap_setCell_other _ ⟨gp, 1, none⟩ q _ hq, heap_setCell_other _ ⟨gp, 0, none⟩ q _ hq]⟩
end
end Go.Proofs.Ytlbapnecmhlgmaa
namespace Go.Proofs.Ytlbapnecmhlgmaa
open Go.RowKit

/-- All blocks stay but rows of these types; new ones may come. -/
structure Stay (ts : List TypeId) (w w' : World) : Prop where
  size : w.heap.size ≤ w'.heap.size
  obj : ∀ (k : Nat) (o : Obj), w.heap[k]? = some o → (∀ C t fr, o = .cells C t fr → t ∉ ts) → w'.heap[k]? = w.heap[k]?
theorem Stay.of_below {ts : List TypeId} {w w' : World} (h : Below w.heap.size w w') : Stay ts w w' := ⟨h.size, fun k _ ho _ => h.block k (Array.getElem?_eq_some_iff.1 ho).1⟩
theorem Stay.trans {ts : List TypeId} {a b c : World} (h : Stay ts a b) (k : Stay ts b c) : Stay ts a c :=
  ⟨Nat.le_trans h.size k.size, fun i o ho h1 => (k.obj i o ((h.obj i o ho h1).trans ho) h1).trans (h.obj i o ho h1)⟩
theorem Stay.row {ts : List TypeId} {w w' : World} (h : Stay ts w w') {k : Nat} {C : Array Value} {t : TypeId} (hr : Row w k C t) (ht : t ∉ ts) : w'.heap[k]? = w.heap[k]? :=
  h.obj k _ hr (fun C t fr e => by cases e; exact ht)
theorem Stay.row' {ts : List TypeId} {w w' : World} (h : Stay ts w w') {k : Nat} {C : Array Value} {t : TypeId} (hr : Row w k C t) (ht : t ∉ ts) : Row w' k C t := (h.row hr ht).trans hr
theorem Stay.of_frR {w w' : World} (h : FrR w w') : Stay [75, 96] w w' :=
  ⟨h.size, fun k o ho h1 => h.obj k o ho (fun C fr e => h1 C 75 fr e (by simp)) (fun C fr e => h1 C 96 fr e (by simp))⟩
theorem Stay.mono {ts us : List TypeId} {w w' : World} (h : Stay ts w w') (hs : ∀ t ∈ ts, t ∈ us) : Stay us w w' := ⟨h.size, fun k o ho h1 => h.obj k o ho (fun C t fr e ht => h1 C t fr e (hs t ht))⟩
theorem Stay.of_chg {w w' : World} {b0 g g1 c1 g2 c2 : Nat} {ev : Value} {D : Dk} (hD : DiskAt w b0 g g1 c1 g2 c2 ev D) (hc : Chg g g2 ev w w') : Stay [64, 5, 95] w w' :=
  ⟨hc.size, fun k o ho h1 => hc.block k (Array.getElem?_eq_some_iff.1 ho).1 (fun e => by
    subst e
    have := hD.row.symm.trans ho
    simp only [Option.some.injEq] at this
    exact h1 _ _ _ this.symm (by simp)) (fun e => by
    subst e
    obtain ⟨_, _, _, _, cur, hr, _⟩ := ownsRow_slice hD.now
    have := hr.symm.trans ho
    simp only [Option.some.injEq] at this
    exact h1 _ _ _ this.symm (by simp)) (fun e => by
    obtain ⟨_, _, cur, hr⟩ := ownsRow_lt hD.evs k e
    have := hr.symm.trans ho
    simp only [Option.some.injEq] at this
    exact h1 _ _ _ this.symm (by simp))⟩
theorem Stay.of_set {w : World} {g : Nat} {C : Array Value} {t : TypeId} (hr : Row w g C t) (i : Nat) (v : Value) : Stay [t] w (w.setCell ⟨g, i, none⟩ v) :=
  ⟨by simp, fun k o ho h1 => heap_setCell_other w ⟨g, i, none⟩ k v (fun e => by
    subst e
    have := hr.symm.trans ho
    simp only [Option.some.injEq] at this
    exact h1 _ _ _ this.symm (by simp))⟩
section
variable {ts : List TypeId} {w w' : World}
theorem DiskAt.stay {base g g1 c1 g2 c2 : Nat} {ev : Value} {D : Dk} (h : DiskAt w base g g1 c1 g2 c2 ev D) (hs : Stay ts w w') (hn : ∀ t ∈ [64, 5, 95], t ∉ ts) : DiskAt w' base g g1 c1 g2 c2 ev D :=
  h.keepT fun _ _ t hr ht => hs.row hr (hn t (by simpa using ht))
theorem JAt.stay {base gj gm gd : Nat} {J : Jn} (h : JAt w base gj gm gd J) (hs : Stay ts w w') (hn : 56 ∉ ts) : JAt w' base gj gm gd J := by
  obtain ⟨es, clock, m1, _⟩ := h.map.ex
  exact h.keep (hs.row h.row hn) (hs.obj gm _ m1 (fun _ _ _ e => by cases e))
theorem RefAt.stay {base gr : Nat} {fv lv : Value} {R : Rk} (h : RefAt w base gr fv lv R) (hs : Stay ts w w') (hn : ∀ t ∈ [75, 9, 96], t ∉ ts) : RefAt w' base gr fv lv R :=
  h.keep fun k hk => by
    rcases hk with rfl | hk | hk
    · exact hs.row h.row (hn 75 (by simp))
    · obtain ⟨_, _, cur, hr⟩ := ownsRow_lt h.first k hk
      exact hs.row hr (hn 9 (by simp))
    · obtain ⟨_, _, cur, hr⟩ := ownsRow_lt h.evs k hk
      exact hs.row hr (hn 96 (by simp))
theorem RJ.stay {w0 : World} {base gr : Nat} {fv : Value} {D : Dk} (h : RJ w0 base gr fv D w) (hs : Stay ts w w') (hn : ∀ t ∈ [75, 9, 96], t ∉ ts) : RJ w' base gr fv D w' := by
  obtain ⟨rv, R, Fl, h1, h2, h3⟩ := h.ref
  exact ⟨⟨rv, R, Fl, h1.stay hs hn, h2, h3⟩, h.ok, FrR.refl _, Below.refl _ _⟩
theorem QAt.stay {base gq gr A sec : Nat} {lv : Value} {P : List Rv} (h : QAt w base gq gr A sec lv P) (hs : Stay ts w w') (hn : ∀ t ∈ [50, 86], t ∉ ts) : QAt w' base gq gr A sec lv P :=
  h.keepT fun _ _ t hr ht => hs.row hr (hn t (by simpa using ht))
/-- A map changes: rows stay. -/
theorem One.rows {gm : Nat} {L : List Pt} (hm : MapAt w gm L) (h : One gm w w') : ∀ k C t, Row w k C t → Row w' k C t := fun k _ _ hr => (h.block k (hm.row_ne hr).symm).trans hr
theorem One.ro {gm : Nat} {L : List Pt} (hm : MapAt w gm L) (h : One gm w w') : Ro w w' := ⟨fun k C t hr _ _ _ => h.rows hm k C t hr⟩
end
/-- Below a base that lies at or below the map, or the row, that changes. -/
theorem One.belowB {gm B : Nat} {w w' : World} (h : One gm w w') (hB : B ≤ gm) : Below B w w' := ⟨h.os, h.tape, h.output, by rw [h.size]; exact Nat.le_refl _, fun k hk => h.block k (by omega)⟩
theorem Below.set {w : World} {B g i : Nat} (v : Value) (hB : B ≤ g) : Below B w (w.setCell ⟨g, i, none⟩ v) := ⟨rfl, rfl, rfl, by simp, fun k hk => heap_setCell_other w ⟨g, i, none⟩ k v (show k ≠ g by omega)⟩

/-- What the law sees of a step: its own rows stay, and nothing from before it. -/
structure Kp (B : Nat) (w w' : World) : Prop where
  row : ∀ k C t, Row w k C t → t = 39 ∨ t = 43 → Row w' k C t
  old : Below B w w'
theorem Kp.of {ts : List TypeId} {B : Nat} {w w' : World} (h : Stay ts w w') (h1 : 39 ∉ ts) (h2 : 43 ∉ ts) (hb : Below B w w') : Kp B w w' :=
  ⟨fun _ _ _ hr ht => h.row' hr (by rcases ht with e | e <;> subst e <;> assumption), hb⟩
theorem Kp.below {B : Nat} {w w' : World} (hb : Below w.heap.size w w') (hB : B ≤ w.heap.size) : Kp B w w' := ⟨fun _ _ _ hr _ => hr.below hb hr.lt, hb.mono hB⟩
/-- The same, and rows of bytes stay. -/
structure Kq (B : Nat) (w w' : World) : Prop where
  row : ∀ k C t, Row w k C t → t = 39 ∨ t = 43 ∨ t = 5 → Row w' k C t
  old : Below B w w'
theorem Kq.below {B : Nat} {w w' : World} (hb : Below w.heap.size w w') (hB : B ≤ w.heap.size) : Kq B w w' := ⟨fun _ _ _ hr _ => hr.below hb hr.lt, hb.mono hB⟩
/-- The pair between two acts. -/
structure Pv (B A sec gp n : Nat) (w : World) : Prop where
  ex : ∃ gr fv g g1 c1 g2 c2 ev D gj gm L gq lv K, PairAt w B gr fv B g g1 c1 g2 c2 ev D B gj gm ⟨A, sec, L⟩ B gq lv K gp w ∧ Jn.ok ⟨A, sec, L⟩ D.s ∧ D.s = 12 ∧ D.E.length ≤ n
theorem PairAt.mk' {B : Nat} {w w' w'' : World} {base' gr : Nat} {fv : Value} {g g1 c1 g2 c2 : Nat} {ev : Value} {D : Dk} {gj gm : Nat} {J : Jn} {gq : Nat} {lv : Value} {K : List Nat} {gp : Nat} {C : Array Value} (hrow : Row w gp C 39) (hC : C = #[.pointer (some ⟨g, 0, none⟩), .pointer (some ⟨gr, 0, none⟩), .pointer (some ⟨gj, 0, none⟩), .pointer (some ⟨gq, 0, none⟩)])
    (hk : Kp B w w') (hD : DiskAt w' B g g1 c1 g2 c2 ev D) (hJ : JAt w' B gj gm g J) (hR : RJ w'' base' gr fv D w') (hR' : base' = B) (hQ : QAt w' B gq gr J.at' J.sec lv (putsR J.L K)) (hK : KeysOf J.L K) (hB : B ≤ w'.heap.size) :
    PairAt w' B gr fv B g g1 c1 g2 c2 ev D B gj gm J B gq lv K gp w' := by
  subst hC
  subst hR'
  exact ⟨hk.row _ _ _ hrow (.inl rfl), hD, hJ, hR.self, hQ, hK, hB⟩
theorem Lost.pv {B A sec gp : Nat} {w w' : World} (h : Lost B 12 A sec gp w w') (h2 : 2 ≤ sec) (h31 : sec ≤ 31) (hf : A + sec ≤ 12) : Pv B A sec gp 40 w' ∧ Below gp w w' := by
  obtain ⟨gr, fv, g, g1, c1, g2, c2, ev, D, gj, gm, gq, lv, hP, hs, hE, hb⟩ := h
  exact ⟨⟨gr, fv, g, g1, c1, g2, c2, ev, D, gj, gm, [], gq, lv, [], hP, ⟨h2, h31, by show A + sec ≤ D.s; omega, Nat.zero_le _, fun p hp => by cases hp⟩, hs, hE⟩, hb⟩
end Go.Proofs.Ytlbapnecmhlgmaa
namespace Go.Proofs.Ytlbapnecmhlgmaa
open Go.RowKit

section
variable {w : World} {base g1 c1 g2 c2 gd : Nat} {ev : Value} {D : Dk} {jb gj gm : Nat} {J : Jn}
theorem put_arg (hD : DiskAt w base gd g1 c1 g2 c2 ev D) (hJ : JAt w jb gj gm gd J) (hs : J.at' + J.sec ≤ 100000) (n : Int) (v : Value) (hn : n < 0 ∨ (D.s : Int) ≤ n ∨ ((J.at' : Int) ≤ n ∧ n < (J.at' : Int) + J.sec)) :
    Calls Try.prog 13 #[.pointer (some ⟨gj, 0, none⟩), .int .i64 n, v] w fun e w' => e = .returned (.int .i64 2) ∧ Below w.heap.size w w' := by
  have H1 := jmade_yes hD hJ
  have H2 := jhas_any hD hJ n
  by_cases hh : 0 ≤ n ∧ n < (D.s : Int)
  · have H3 := owns_any hJ hs n
    rw [show decide (0 ≤ n ∧ n < (D.s : Int)) = true by simpa using hh] at H2
    rw [show decide ((J.at' : Int) ≤ n ∧ n < (J.at' : Int) + J.sec) = true by simp; omega] at H3
    clear hD hJ hn hh
    go_enter Try.func13, Try.ntmps13
    go_wp2_with fail
    refine H1.mono ?_
    rintro e w' ⟨rfl, hw'⟩
    subst w'
    go_wp2_with fail
    refine H2.mono ?_
    rintro e w' ⟨rfl, hw'⟩
    subst w'
    go_wp2_with fail
    refine H3.mono ?_
    rintro e w' ⟨rfl, hw'⟩
    subst w'
    clear H1 H2 H3
    go_wp2
    go_ret
    exact ⟨rfl, (Below.refl _ _).drew⟩
  · rw [show decide (0 ≤ n ∧ n < (D.s : Int)) = false by simpa using hh] at H2
    clear hD hJ hn hh
    go_enter Try.func13, Try.ntmps13
    go_wp2_with fail
    refine H1.mono ?_
    rintro e w' ⟨rfl, hw'⟩
    subst w'
    go_wp2_with fail
    refine H2.mono ?_
    rintro e w' ⟨rfl, hw'⟩
    subst w'
    clear H1 H2
    go_wp2
    go_ret
    exact ⟨rfl, Below.refl _ _⟩
end

/-- Where a number belongs among rising ones. -/
theorem place_of : ∀ (K : List Nat) (n : Nat), K.Pairwise (· < ·) → n ∉ K → ∃ k, k ≤ K.length ∧ (∀ i, i < k → K.getD i 0 < n) ∧ (∀ i, k ≤ i → i < K.length → n < K.getD i 0)
  | [], n, _, _ => ⟨0, Nat.le_refl _, fun i hi => absurd hi (by omega), fun i _ hi => absurd hi (by simp)⟩
  | a :: K, n, hp, hn => by
    have hp' := List.pairwise_cons.1 hp
    have hna : n ≠ a := fun e => hn (by simp [e])
    have hnK : n ∉ K := fun e => hn (by simp [e])
    by_cases h : n < a
    · refine ⟨0, Nat.zero_le _, fun i hi => absurd hi (by omega), fun i _ hi => ?_⟩
      cases i with
      | zero => simpa using h
      | succ i =>
        have hi' : i < K.length := by simpa using hi
        have := hp'.1 (K.getD i 0) (by simp [List.getD, List.getElem?_eq_getElem hi'])
        simp only [List.getD_cons_succ]
        omega
    · obtain ⟨k, h1, h2, h3⟩ := place_of K n hp'.2 hnK
      refine ⟨k + 1, by simpa using h1, fun i hi => ?_, fun i hi hl => ?_⟩
      · cases i with
        | zero => simp; omega
        | succ i => simp only [List.getD_cons_succ]; exact h2 i (by omega)
      · cases i with
        | zero => omega
        | succ i => simp only [List.getD_cons_succ]; exact h3 i (by omega) (by simpa using hl)
theorem getD_mem (K : List Nat) (i : Nat) (h : i < K.length) : K.getD i 0 ∈ K := by simp [List.getD, List.getElem?_eq_getElem h]
theorem mem_getD (K : List Nat) (x : Nat) (h : x ∈ K) : ∃ i, i < K.length ∧ K.getD i 0 = x := by
  obtain ⟨i, hi, e⟩ := List.mem_iff_getElem.1 h
  exact ⟨i, hi, by simp [List.getD, List.getElem?_eq_getElem hi, e]⟩
theorem mem_take_getD (K : List Nat) (k x : Nat) (h : x ∈ K.take k) : ∃ i, i < k ∧ i < K.length ∧ K.getD i 0 = x := by
  obtain ⟨i, hi, e⟩ := List.mem_iff_getElem.1 h
  have hi' : i < min k K.length := by simpa using hi
  exact ⟨i, by omega, by omega, by simp [List.getD, List.getElem?_eq_getElem (show i < K.length by omega)]; simpa using e⟩
theorem mem_drop_getD (K : List Nat) (k x : Nat) (h : x ∈ K.drop k) : ∃ i, k ≤ i ∧ i < K.length ∧ K.getD i 0 = x := by
  obtain ⟨i, hi, e⟩ := List.mem_iff_getElem.1 h
  have hi' : i < K.length - k := by simpa using hi
  exact ⟨k + i, by omega, by omega, by simp [List.getD, List.getElem?_eq_getElem (show k + i < K.length by omega)]; simpa using e⟩
theorem KeysOf.of_mem {L : List Pt} {K : List Nat} (hu : K.Pairwise (· < ·)) (hm : ∀ k, k ∈ K ↔ k ∈ L.map Pt.k) (hnd : (L.map Pt.k).Nodup) : KeysOf L K := by
  refine ⟨hu, hm, ?_⟩
  have hKn : K.Nodup := hu.imp (fun h => by omega)
  have h1 := nodup_len K (L.map Pt.k) hKn (fun k hk => (hm k).1 hk)
  have h2 := nodup_len (L.map Pt.k) K hnd (fun k hk => (hm k).2 hk)
  rw [List.length_map] at h1 h2
  omega
section
variable {L L' : List Pt} {K : List Nat} {n : Nat} {f : Nat → Int}
theorem look_mem' (hl : ∀ x, lookL L' x = if x = n then some f else lookL L x) (x : Nat) : x ∈ L'.map Pt.k ↔ x = n ∨ x ∈ L.map Pt.k := by
  rw [← lookL_mem, ← lookL_mem, hl]
  by_cases e : x = n
  · simp [e]
  · simp [e]
theorem lookD_n (hl : ∀ x, lookL L' x = if x = n then some f else lookL L x) : lookD L' n = f := by
  unfold lookD
  rw [hl, if_pos rfl]
  rfl
theorem lookD_o (hl : ∀ x, lookL L' x = if x = n then some f else lookL L x) {x : Nat} (h : x ≠ n) : lookD L' x = lookD L x := by
  unfold lookD
  rw [hl, if_neg h]
theorem puts_set (hK : KeysOf L K) (hl : ∀ x, lookL L' x = if x = n then some f else lookL L x) (k : Nat) (hk : k < K.length) (e : K.getD k 0 = n) : (putsR L K).set k ⟨(n : Nat), sStr f⟩ = putsR L' K := by
  apply List.ext_getElem?
  intro i
  by_cases hi : i < K.length
  · rw [putsR_at L' K i hi]
    by_cases hik : k = i
    · subst hik
      rw [List.getElem?_set_self (by rw [putsR_len]; exact hi), e, lookD_n hl]
    · rw [List.getElem?_set_ne hik, putsR_at L K i hi, lookD_o hl]
      intro e2
      have hp := List.pairwise_iff_getElem.1 hK.up
      simp only [List.getD, List.getElem?_eq_getElem hi, List.getElem?_eq_getElem hk, Option.getD_some] at e e2
      rcases Nat.lt_or_gt_of_ne hik with h | h
      · have := hp k i hk hi h
        omega
      · have := hp i k hi hk h
        omega
  · rw [List.getElem?_eq_none (by rw [List.length_set, putsR_len]; omega), List.getElem?_eq_none (by rw [putsR_len]; omega)]
theorem puts_new (hl : ∀ x, lookL L' x = if x = n then some f else lookL L x) (k : Nat) (hno : n ∉ K) : (putsR L K).take k ++ [⟨(n : Nat), sStr f⟩] ++ (putsR L K).drop k = putsR L' (K.take k ++ [n] ++ K.drop k) := by
  have key : ∀ T : List Nat, (∀ x ∈ T, x ∈ K) → T.map (fun k => (⟨(k : Nat), sStr (lookD L k)⟩ : Rv)) = T.map fun k => ⟨(k : Nat), sStr (lookD L' k)⟩ := fun T hT => List.map_congr_left fun x hx => by
    rw [lookD_o hl (fun e => hno (e ▸ hT x hx))]
  unfold putsR
  rw [List.map_append, List.map_append, ← List.map_take, ← List.map_drop, key _ (fun x hx => List.mem_of_mem_take hx), key _ (fun x hx => List.mem_of_mem_drop hx)]
  simp only [List.map_cons, List.map_nil, lookD_n hl]
theorem keys_new (hK : KeysOf L K) (hl : ∀ x, lookL L' x = if x = n then some f else lookL L x) (hnd : (L'.map Pt.k).Nodup) (k : Nat) (h1 : ∀ i, i < k → K.getD i 0 < n) (h2 : ∀ i, k ≤ i → i < K.length → n < K.getD i 0) : KeysOf L' (K.take k ++ [n] ++ K.drop k) := by
  refine KeysOf.of_mem ?_ (fun x => ?_) hnd
  · have hp := hK.up
    rw [← List.take_append_drop k K] at hp
    obtain ⟨p1, p2, p3⟩ := List.pairwise_append.1 hp
    refine List.pairwise_append.2 ⟨List.pairwise_append.2 ⟨p1, List.pairwise_singleton _ _, fun a ha b hb => ?_⟩, p2, fun a ha b hb => ?_⟩
    · obtain ⟨i, hi, _, rfl⟩ := mem_take_getD K k a ha
      obtain rfl : b = n := by simpa using hb
      exact h1 i hi
    · rcases List.mem_append.1 ha with ha | ha
      · exact p3 a ha b hb
      · obtain rfl : a = n := by simpa using ha
        obtain ⟨i, hi, hil, rfl⟩ := mem_drop_getD K k b hb
        exact h2 i hi hil
  · rw [look_mem' hl, ← hK.mem]
    have : x ∈ K ↔ x ∈ K.take k ∨ x ∈ K.drop k := by rw [← List.mem_append, List.take_append_drop]
    rw [this]
    simp only [List.mem_append, List.mem_singleton]
    constructor
    · rintro ((h | h) | h) <;> simp [h]
    · rintro (h | h | h) <;> simp [h]
end
end Go.Proofs.Ytlbapnecmhlgmaa
