/- The document's journal and disk together; the walk of do. The walks of the document's Open and Get. -/
import Derived.Test.YtlbapnecmhlgmaaM12
import Derived.Test.YtlbapnecmhlgmaaM8
namespace Go.Proofs.Ytlbapnecmhlgmaa
open Go.RowKit

/-- Blocks of other kinds than the document's disk's stay. -/
structure FrR (w w' : World) : Prop where
  size : w.heap.size ≤ w'.heap.size
  obj : ∀ (k : Nat) (o : Obj), w.heap[k]? = some o → (∀ C fr, o ≠ .cells C 75 fr) → (∀ C fr, o ≠ .cells C 96 fr) → w'.heap[k]? = w.heap[k]?
theorem FrR.refl (w : World) : FrR w w := ⟨Nat.le_refl _, fun _ _ _ _ _ => rfl⟩
theorem FrR.trans {a b c : World} (h : FrR a b) (k : FrR b c) : FrR a c :=
  ⟨Nat.le_trans h.size k.size, fun i o ho h1 h2 => (k.obj i o ((h.obj i o ho h1 h2).trans ho) h1 h2).trans (h.obj i o ho h1 h2)⟩
theorem FrR.of_below {w w' : World} (h : Below w.heap.size w w') : FrR w w' := ⟨h.size, fun k _ ho _ _ => h.block k (Array.getElem?_eq_some_iff.1 ho).1⟩
theorem FrR.of_chgR {w w' : World} {base gr : Nat} {fv rv : Value} {R : Rk} (h : RefAt w base gr fv rv R) (hc : ChgR gr rv w w') : FrR w w' :=
  ⟨hc.size, fun k o ho h1 h2 => hc.block k (Array.getElem?_eq_some_iff.1 ho).1 (fun e => by
    subst e
    have := h.row.symm.trans ho
    simp only [Option.some.injEq] at this
    exact h1 _ _ this.symm) (fun e => by
    obtain ⟨_, _, cur, hr⟩ := ownsRow_lt h.evs k e
    have := hr.symm.trans ho
    simp only [Option.some.injEq] at this
    exact h2 _ _ this.symm)⟩
theorem FrR.row {w w' : World} (h : FrR w w') {k : Nat} {C : Array Value} {t : TypeId} (hr : Row w k C t) (h1 : t ≠ 75) (h2 : t ≠ 96) : w'.heap[k]? = w.heap[k]? :=
  h.obj k _ hr (fun C fr e => by cases e; exact h1 rfl) (fun C fr e => by cases e; exact h2 rfl)
theorem QAt.frR {w w' : World} {base gq gr A sec : Nat} {lv : Value} {P : List Rv} (h : QAt w base gq gr A sec lv P) (hf : FrR w w') : QAt w' base gq gr A sec lv P :=
  h.keepT fun _ _ _ hr ht => hf.row hr (by rcases ht with h | h <;> subst h <;> decide) (by rcases ht with h | h <;> subst h <;> decide)
theorem NumsAt.frR {w w' : World} {base : Nat} {v : Value} {K : List Nat} (h : NumsAt w base v K) (hf : FrR w w') : NumsAt w' base v K := by
  obtain ⟨a, c, h1, h2⟩ := h.ex
  refine ⟨a, c, h1, fun h0 => ?_⟩
  obtain ⟨b, hb, hbb, hI⟩ := h2 h0
  obtain ⟨cur, hr, hs, hc⟩ := hI
  exact ⟨b, hb, hbb, cur, (hf.row hr (by decide) (by decide)).trans hr, hs, hc⟩
theorem Dk.ok.wr {D : Dk} (h : D.ok) (n : Nat) (hn : n < D.s) (f : Nat → Int) (hf : ∀ i, 0 ≤ f i ∧ f i < 256) : (D.write n f).ok :=
  ⟨h.lo, h.hi, h.F, fun i => by
    show 0 ≤ over D.B n f i ∧ over D.B n f i < 256
    unfold over
    split
    · exact hf _
    · exact h.B i, fun e he => by
    rcases List.mem_append.1 he with h1 | h1
    · exact h.E e h1
    · simp at h1
      subst h1
      exact ⟨hf, .inr ⟨by show (0 : Int) ≤ n; omega, by show (n : Int) < D.s; omega⟩⟩⟩
theorem Dk.ok.fl {D : Dk} (h : D.ok) : D.flush.ok :=
  ⟨h.lo, h.hi, h.F, h.B, fun e he => by
    rcases List.mem_append.1 he with h1 | h1
    · exact h.E e h1
    · simp at h1
      subst h1
      exact ⟨fun _ => ⟨by show (0 : Int) ≤ 0; decide, by show (0 : Int) < 256; decide⟩, .inl rfl⟩⟩

/-- The document's disk, beside the program's D, as it is now. -/
structure RJ (w : World) (base gr : Nat) (fv : Value) (D : Dk) (wx : World) : Prop where
  ref : ∃ rv R Fl, RefAt wx base gr fv rv R ∧ Twin D R ∧ Hist D Fl
  ok : D.ok
  fr : FrR w wx
  old : Below base w wx
section
variable {w wx : World} {base gr : Nat} {fv : Value} {D : Dk}
theorem RJ.below (h : RJ w base gr fv D wx) {wy : World} (hb : Below wx.heap.size wx wy) (hB : base ≤ wx.heap.size) : RJ w base gr fv D wy := by
  obtain ⟨rv, R, Fl, h1, h2, h3⟩ := h.ref
  exact ⟨⟨rv, R, Fl, h1.below hb, h2, h3⟩, h.ok, h.fr.trans (FrR.of_below hb), h.old.trans (hb.mono hB)⟩
theorem RJ.read (h : RJ w base gr fv D wx) (hL : D.E.length ≤ 900000) (n : Nat) (hn : n < D.s) :
    Calls Try.prog 33 #[.pointer (some ⟨gr, 0, none⟩), .int .i64 n] wx fun e w' => e = .returned (.tuple #[.string (sStr (secF D.B n)), .int .i64 0]) ∧ w' = wx := by
  obtain ⟨rv, R, Fl, h1, h2, h3⟩ := h.ref
  have hr := refRead_ok h1 n (by rw [h2.len]; exact hn) (by rw [h2.llen]; omega) (by rw [h2.len]; have := h.ok.hi; omega)
  rw [h2.read h.ok n hn] at hr
  exact hr
theorem RJ.write (h : RJ w base gr fv D wx) (hbase : base ≤ wx.heap.size) (hL : D.E.length ≤ 900000) (n : Nat) (hn : n < D.s) (b off cap : Nat) (f : Nat → Int) (hf : ∀ i, 0 ≤ f i ∧ f i < 256) (src : Array Value) (fr : Nat × Nat) (hsrc : wx.heap[b]? = some (.cells src 5 fr)) (hcs : ∀ i, i < 256 → src[off + i]? = some (.int .u8 (f i))) :
    Calls Try.prog 20 #[.pointer (some ⟨gr, 0, none⟩), .int .i64 n, .slice (some ⟨b, off, none⟩) 256 cap] wx fun e w' => e = .returned (.int .i64 0) ∧ RJ w base gr fv (D.write n f) w' ∧ FrR wx w' := by
  obtain ⟨rv, R, Fl, h1, h2, h3⟩ := h.ref
  refine (refWrite_ok h1 hbase (by rw [h2.llen]; omega) n (by rw [h2.len]; exact hn) b off cap f src fr hsrc hcs).mono ?_
  rintro e w' ⟨he, rv', hR', hc⟩
  have hf' := FrR.of_chgR h1 hc
  exact ⟨he, ⟨⟨rv', _, Fl, hR', h2.write Fl h3 n f, h3.write n f⟩, h.ok.wr n hn f hf, h.fr.trans hf', h.old.trans (h1.to_below hc hbase)⟩, hf'⟩
theorem RJ.flush (h : RJ w base gr fv D wx) (hbase : base ≤ wx.heap.size) (hL : D.E.length ≤ 900000) :
    Calls Try.prog 44 #[.pointer (some ⟨gr, 0, none⟩)] wx fun e w' => (∃ v, e = .returned v) ∧ RJ w base gr fv D.flush w' ∧ FrR wx w' := by
  obtain ⟨rv, R, Fl, h1, h2, h3⟩ := h.ref
  refine (refFlush_ok h1 hbase (by rw [h2.llen]; omega)).mono ?_
  rintro e w' ⟨he, rv', hR', hc⟩
  have hf' := FrR.of_chgR h1 hc
  exact ⟨he, ⟨⟨rv', _, _, hR', h2.flush Fl h3, h3.flush⟩, h.ok.fl, h.fr.trans hf', h.old.trans (h1.to_below hc hbase)⟩, hf'⟩
end

set_option maxRecDepth 20000 in
set_option maxHeartbeats 4000000 in
theorem rdo_ok {w0 w : World} {base gr : Nat} {fv : Value} {D : Dk} {qb gq A sec : Nat} {lv : Value} {P : List Rv} {kb : Nat} {v : Value} {K : List Nat} (h : RJ w0 base gr fv D w) (hbase : base ≤ w.heap.size) (hL : D.E.length ≤ 500000) (hQ : QAt w qb gq gr A sec lv P) (hfit : A + sec ≤ D.s)
    (hK : NumsAt w kb v K) (hKl : K.length + 1 ≤ sec) (hs : sec ≤ 31) (hKs : ∀ i, i < K.length → K.getD i 0 < D.s) :
    Calls Try.prog 35 #[.pointer (some ⟨gq, 0, none⟩), v] w fun e w' => (∃ r, e = .returned r) ∧ RJ w0 base gr fv (doD D A K) w' ∧ FrR w w' := by
  have hDh := h.ok.hi
  obtain ⟨a, c, hv, hKI⟩ := hK.ex
  have hmk := fun w => run_make_row' (P := Try.prog) 40 5 (.int .u8 0) 1 Try.underlying40 Try.info5 rfl .i64 .i64 256 (by omega) (by omega) w
  simp only [show ((256 : Nat) : Int) = 256 from rfl] at hmk
  have HMK : Hid _ := hmk
  have HH : Hid _ := h
  have HQ : Hid _ := hQ
  have HK : Hid _ := hK
  have HKI : Hid _ := hKI
  have HKS : Hid _ := hKs
  clear h hQ hK hKI hmk hKs
  subst hv
  go_enter Try.func35, Try.ntmps35
  go_wp2
  go_loopw [4] (fun iv wx => ∃ i : Nat, i ≤ K.length ∧ iv = .int .i64 i ∧ Hid (RJ w0 base gr fv (doN D A K i) wx) ∧ Hid (FrR w wx)) (fun iv _ => K.length - (intOf iv).toNat)
  case atStart => exact ⟨0, Nat.zero_le _, rfl, HH, FrR.refl _⟩
  case round =>
    obtain ⟨i, hi, rfl, hJ, hF⟩ := hrel
    have hsz := hF.out.size
    have hdl := doN_len D A K i
    have hds := doN_s D A K i
    have HQr : Hid _ := (HQ.out.frR hF.out)
    have HKr : Hid _ := (HK.out.frR hF.out)
    by_cases hlt : i < K.length
    · have hlt' : (i : Int) < (K.length : Int) := by omega
      obtain ⟨b, hab, hbb, hIw⟩ := HKI.out (by omega)
      have hI : Ints wr b K.length (fun i => (K.getD i 0 : Nat)) := by
        obtain ⟨cur, hr, h1, h2⟩ := hIw
        exact ⟨cur, (hF.out.row hr (by decide) (by decide)).trans hr, h1, h2⟩
      have HI : Hid _ := hI
      have hkb : K.getD i 0 < D.s := HKS.out i hlt
      obtain ⟨kn, hkn⟩ : ∃ kn, kn = K.getD i 0 := ⟨_, rfl⟩
      rw [← hkn] at hkb
      have HKN : Hid _ := hkn
      clear hI hIw hkn
      have e1 : IntKind.i64.wrap ((A : Int) + 1) = (A : Int) + 1 := by rw [IntKind.wrap_i64]; omega
      have e2 : IntKind.i64.wrap ((A : Int) + 1 + i) = (A : Int) + 1 + i := by rw [IntKind.wrap_i64]; omega
      have hRd := (hJ.out.below (Below.refl _ _).drew (by omega)).read (by rw [hdl]; omega) (A + 1 + i) (by rw [hds]; omega)
      rw [show ((A + 1 + i : Nat) : Int) = (A : Int) + 1 + i by omega] at hRd
      have HRd : Hid _ := hRd
      clear hRd
      obtain ⟨T, hT⟩ : ∃ T, T = sStr (secF (doN D A K i).B (A + 1 + i)) := ⟨_, rfl⟩
      rw [← hT] at HRd
      have HT : Hid _ := hT
      clear hT
      subst hab
      go_wp2_with fail
      have hS1 : QAt wr.drew qb gq gr A sec lv P ∧ NumsAt wr.drew kb (.slice (some ⟨b, 0, none⟩) K.length c) K := ⟨HQr.out.below (Below.refl _ _).drew, HKr.out.frR (FrR.of_below (Below.refl _ _).drew)⟩
      refine wp_region_mix [false, false, false, false, false, false, false, false, false, false, false, true, false, false, false, false, false] (fun wx => QAt wx qb gq gr A sec lv P ∧ NumsAt wx kb (.slice (some ⟨b, 0, none⟩) K.length c) K) (by kernel_rfl) (by kernel_rfl) hS1 ?_
      refine m_move _ rfl (by rfl) ?_
      simp only [Act.put, List.setIfInBounds_toArray, List.set_cons_zero, List.set_cons_succ]
      refine m_value ?_ (by rfl) (fun w hw => ?_) ?_
      rotate_left
      · go_simp
        with_reducible rfl
      simp only [Act.put, List.setIfInBounds_toArray, List.set_cons_zero, List.set_cons_succ]
      refine m_value ?_ (by rfl) (fun w hw => ?_) ?_
      rotate_left
      · go_simp
        with_reducible rfl
      simp only [Act.put, List.setIfInBounds_toArray, List.set_cons_zero, List.set_cons_succ]
      refine m_value ?_ (by rfl) (fun w hw => ?_) ?_
      rotate_left
      · have hc := (hw.1.row.cell 0).trans (rfl : _ = some (Value.pointer (some ⟨gr, 0, none⟩)))
        go_simp
        with_reducible rfl
      simp only [Act.put, List.setIfInBounds_toArray, List.set_cons_zero, List.set_cons_succ]
      refine m_move _ rfl (by rfl) ?_
      simp only [Act.put, List.setIfInBounds_toArray, List.set_cons_zero, List.set_cons_succ]
      refine m_value ?_ (by rfl) (fun w hw => ?_) ?_
      rotate_left
      · go_simp
        with_reducible rfl
      simp only [Act.put, List.setIfInBounds_toArray, List.set_cons_zero, List.set_cons_succ]
      refine m_value ?_ (by rfl) (fun w hw => ?_) ?_
      rotate_left
      · go_simp
        with_reducible rfl
      simp only [Act.put, List.setIfInBounds_toArray, List.set_cons_zero, List.set_cons_succ]
      refine m_value ?_ (by rfl) (fun w hw => ?_) ?_
      rotate_left
      · have hc := (hw.1.row.cell 1).trans (rfl : _ = some (Value.int .i64 (A : Int)))
        go_simp
        with_reducible rfl
      simp only [Act.put, List.setIfInBounds_toArray, List.set_cons_zero, List.set_cons_succ]
      refine m_value ?_ (by rfl) (fun w hw => ?_) ?_
      rotate_left
      · go_simp
        with_reducible rfl
      simp only [Act.put, List.setIfInBounds_toArray, List.set_cons_zero, List.set_cons_succ]
      refine m_move _ rfl (by rfl) ?_
      simp only [Act.put, List.setIfInBounds_toArray, List.set_cons_zero, List.set_cons_succ]
      refine m_value ?_ (by rfl) (fun w hw => ?_) ?_
      rotate_left
      · go_simp
        with_reducible rfl
      simp only [Act.put, List.setIfInBounds_toArray, List.set_cons_zero, List.set_cons_succ]
      refine m_call (by rfl) 33 #[.pointer (some ⟨gr, 0, none⟩), .int .i64 ((A : Int) + 1 + i)] (by go_simp) (Calls.mono HRd.out fun e w' ⟨he, hw'⟩ => ⟨_, he, by rw [hw']; exact hS1, ?_⟩)
      subst hw'
      simp only [Act.put, List.setIfInBounds_toArray, List.set_cons_zero, List.set_cons_succ]
      refine m_move _ rfl (by rfl) ?_
      simp only [Act.put, List.setIfInBounds_toArray, List.set_cons_zero, List.set_cons_succ]
      refine m_value ?_ (by rfl) (fun w hw => ?_) ?_
      rotate_left
      · go_simp
        with_reducible rfl
      simp only [Act.put, List.setIfInBounds_toArray, List.set_cons_zero, List.set_cons_succ]
      refine m_value ?_ (by rfl) (fun w hw => ?_) ?_
      rotate_left
      · go_simp
        with_reducible rfl
      simp only [Act.put, List.setIfInBounds_toArray, List.set_cons_zero, List.set_cons_succ]
      refine m_assign _ rfl (by rfl) ?_
      simp only [Act.put, List.setIfInBounds_toArray, List.set_cons_zero, List.set_cons_succ]
      refine m_assign _ rfl (by rfl) ?_
      simp only [Act.put, List.setIfInBounds_toArray, List.set_cons_zero, List.set_cons_succ]
      refine m_done ?_
      try simp only [Exit.then]
      clear HRd
      go_wp2_with fail
      have hS2 : QAt wr.drew.drew qb gq gr A sec lv P ∧ NumsAt wr.drew.drew kb (.slice (some ⟨b, 0, none⟩) K.length c) K := ⟨hS1.1.below (Below.refl _ _).drew, hS1.2.frR (FrR.of_below (Below.refl _ _).drew)⟩
      have hfb : ∀ j, 0 ≤ secF (doN D A K i).B (A + 1 + i) j ∧ secF (doN D A K i).B (A + 1 + i) j < 256 := fun j => hJ.out.ok.B _
      obtain ⟨cc, C, fr, hC, hnew, hcv⟩ := bytes_of (w := wr.drew.drew) (xs := (List.range 256).map (secF (doN D A K i).B (A + 1 + i))) (fun x hx => by
        obtain ⟨j, _, rfl⟩ := List.mem_map.1 hx
        exact hfb _)
      simp only [List.length_map, List.length_range] at hC hcv
      have hcv2 : (convert 9 40 (.string T)).run Try.prog wr.drew.drew = .ok (.slice (some ⟨wr.drew.drew.heap.size, 0, none⟩) 256 cc) (wr.drew.drew.drew.alloc (.cells C 5 fr)) := by rw [HT.out]; exact hcv
      have hbC : Below wr.heap.size wr (wr.drew.drew.drew.alloc (.cells C 5 fr)) := (((Below.refl _ _).drew).drew.drew).alloc (Nat.le_refl _) _
      have HWr := ((hJ.out.below hbC (by omega)).write (by simp; omega) (by rw [hdl]; omega) kn (by rw [hds]; exact hkb) wr.drew.drew.heap.size 0 cc (secF (doN D A K i).B (A + 1 + i)) hfb C fr hnew (fun j hj => by
        rw [Nat.zero_add, hC j hj]
        simp [List.getD, hj]))
      have HHW : Hid _ := HWr
      have hck : ∀ wx, Ints wx b K.length (fun i => (K.getD i 0 : Nat)) → wx.cell? ⟨b, i, none⟩ = some (.int .i64 (kn : Int)) := fun wx hx => by rw [hx.cell i hlt, HKN.out]
      have HCK : Hid _ := hck
      have hIx : ∀ wx, NumsAt wx kb (.slice (some ⟨b, 0, none⟩) K.length c) K → Ints wx b K.length (fun i => (K.getD i 0 : Nat)) := fun wx hx => by
        obtain ⟨a', c', h1, h2⟩ := hx.ex
        obtain ⟨b', hb', _, hI'⟩ := h2 (by omega)
        subst hb'
        simp only [Value.slice.injEq, Option.some.injEq, Addr.mk.injEq, and_true] at h1
        obtain ⟨rfl, _⟩ := h1
        exact hI'
      have HIX : Hid _ := hIx
      have HBC : Hid _ := hbC
      have hS3 : QAt (wr.drew.drew.drew.alloc (.cells C 5 fr)) qb gq gr A sec lv P ∧ NumsAt (wr.drew.drew.drew.alloc (.cells C 5 fr)) kb (.slice (some ⟨b, 0, none⟩) K.length c) K := ⟨HQr.out.below hbC, HKr.out.frR (FrR.of_below hbC)⟩
      have HS3 : Hid _ := hS3
      clear hC hnew hcv HWr hck hIx hfb hbC hS3
      refine wp_region_mix [false, false, false, false, false, false, false, false, false, true, true] (fun wx => QAt wx qb gq gr A sec lv P ∧ NumsAt wx kb (.slice (some ⟨b, 0, none⟩) K.length c) K) (by kernel_rfl) (by kernel_rfl) hS2 ?_
      refine m_move _ rfl (by rfl) ?_
      simp only [Act.put, List.setIfInBounds_toArray, List.set_cons_zero, List.set_cons_succ]
      refine m_value ?_ (by rfl) (fun w hw => ?_) ?_
      rotate_left
      · go_simp
        with_reducible rfl
      simp only [Act.put, List.setIfInBounds_toArray, List.set_cons_zero, List.set_cons_succ]
      refine m_value ?_ (by rfl) (fun w hw => ?_) ?_
      rotate_left
      · go_simp
        with_reducible rfl
      simp only [Act.put, List.setIfInBounds_toArray, List.set_cons_zero, List.set_cons_succ]
      refine m_value ?_ (by rfl) (fun w hw => ?_) ?_
      rotate_left
      · have hc := (hw.1.row.cell 0).trans (rfl : _ = some (Value.pointer (some ⟨gr, 0, none⟩)))
        go_simp
        with_reducible rfl
      simp only [Act.put, List.setIfInBounds_toArray, List.set_cons_zero, List.set_cons_succ]
      refine m_move _ rfl (by rfl) ?_
      simp only [Act.put, List.setIfInBounds_toArray, List.set_cons_zero, List.set_cons_succ]
      refine m_move _ rfl (by rfl) ?_
      simp only [Act.put, List.setIfInBounds_toArray, List.set_cons_zero, List.set_cons_succ]
      refine m_value ?_ (by rfl) (fun w hw => ?_) ?_
      rotate_left
      · go_simp
        with_reducible rfl
      simp only [Act.put, List.setIfInBounds_toArray, List.set_cons_zero, List.set_cons_succ]
      refine m_value ?_ (by rfl) (fun w hw => ?_) ?_
      rotate_left
      · have hc := HCK.out w (HIX.out w hw.2)
        go_simp
        with_reducible rfl
      simp only [Act.put, List.setIfInBounds_toArray, List.set_cons_zero, List.set_cons_succ]
      refine m_move _ rfl (by rfl) ?_
      simp only [Act.put, List.setIfInBounds_toArray, List.set_cons_zero, List.set_cons_succ]
      refine m_alone (.slice (some ⟨wr.drew.drew.heap.size, 0, none⟩) 256 cc) (wr.drew.drew.drew.alloc (.cells C 5 fr)) (by rfl) (by go_simp) HS3.out ?_
      simp only [Act.put, List.setIfInBounds_toArray, List.set_cons_zero, List.set_cons_succ]
      refine m_call (by rfl) 20 #[.pointer (some ⟨gr, 0, none⟩), .int .i64 kn, .slice (some ⟨wr.drew.drew.heap.size, 0, none⟩) 256 cc] (by go_simp) (Calls.mono HHW.out fun e w4 ⟨he, hJ4, hF4⟩ => ⟨_, he, ⟨HS3.out.1.frR hF4, HS3.out.2.frR hF4⟩, ?_⟩)
      simp only [Act.put, List.setIfInBounds_toArray, List.set_cons_zero, List.set_cons_succ]
      refine m_done ?_
      try simp only [Exit.then]
      have hJ5 : Hid (RJ w0 base gr fv (doN D A K (i + 1)) w4) := by
        have e : doN D A K (i + 1) = (doN D A K i).write kn (secF (doN D A K i).B (A + 1 + i)) := by rw [HKN.out]; rfl
        show RJ _ _ _ _ _ _
        rw [e]
        exact hJ4
      have hF5 : Hid (FrR w w4) := hF.out.trans ((FrR.of_below HBC.out).trans hF4)
      clear hJ4 hF4 HHW HCK HIX HS3 HBC hcv2
      go_wp2
      go_roundw
      case rel => exact ⟨i + 1, by omega, by go_num, hJ5, hF5⟩
      case measure => simp [intOf]; omega
    · have hlt' : ¬ (i : Int) < (K.length : Int) := by omega
      obtain rfl : i = K.length := by omega
      have c0 := (HQr.out.row.cell 0).trans (rfl : _ = some (Value.pointer (some ⟨gr, 0, none⟩)))
      have HFl := hJ.out.flush (by omega) (by rw [hdl]; omega)
      clear HKr
      go_wp2_with fail
      refine HFl.mono ?_
      rintro e w2 ⟨⟨r2, rfl⟩, hJ2, hF2⟩
      clear HFl c0
      have HQ2 : Hid _ := HQr.out.frR hF2
      have hs2 := hF2.size
      have hZ := size_madeCells #[.int .u8 0] 256
      have hmk2 := HMK.out w2.drew
      have hb3 : Below w2.heap.size w2 (w2.drew.alloc (.cells (madeCells #[.int .u8 0] 256) 5)) := ((Below.refl _ _).drew).alloc (Nat.le_refl _) _
      have HW := (hJ2.below hb3 (by omega)).write (by simp; omega) (by show ((doN D A K K.length).E ++ [_]).length ≤ _; rw [List.length_append, hdl]; simp; omega) A (by show A < (doN D A K K.length).s; rw [hds]; omega) w2.drew.heap.size 0 256 (fun _ => 0) (fun _ => by decide) (madeCells #[.int .u8 0] 256) (0, 0) (heap_alloc_new w2.drew _) (fun j hj => by
        have h1 := made_byts 256
        have h2 := byts_at (fun _ => 0) 256 j hj
        rw [← h1] at h2
        rw [Nat.zero_add, ← Array.getElem?_toList]
        exact h2)
      have HHW : Hid _ := HW
      have HB3 : Hid _ := hb3
      have HQ3 : Hid _ := HQ2.out.below hb3
      clear HW hZ hb3
      generalize madeCells #[.int .u8 0] 256 = Z at *
      go_wp2_with fail
      refine wp_region_mix [false, false, false, false, false, false, false, false, true, true] (fun wx => QAt wx qb gq gr A sec lv P ∧ True) (by kernel_rfl) (by kernel_rfl) ⟨HQ2.out.below (Below.refl _ _).drew, trivial⟩ ?_
      refine m_move _ rfl (by rfl) ?_
      simp only [Act.put, List.setIfInBounds_toArray, List.set_cons_zero, List.set_cons_succ]
      refine m_value ?_ (by rfl) (fun w hw => ?_) ?_
      rotate_left
      · go_simp
        with_reducible rfl
      simp only [Act.put, List.setIfInBounds_toArray, List.set_cons_zero, List.set_cons_succ]
      refine m_value ?_ (by rfl) (fun w hw => ?_) ?_
      rotate_left
      · go_simp
        with_reducible rfl
      simp only [Act.put, List.setIfInBounds_toArray, List.set_cons_zero, List.set_cons_succ]
      refine m_value ?_ (by rfl) (fun w hw => ?_) ?_
      rotate_left
      · have hc := (hw.1.row.cell 0).trans (rfl : _ = some (Value.pointer (some ⟨gr, 0, none⟩)))
        go_simp
        with_reducible rfl
      simp only [Act.put, List.setIfInBounds_toArray, List.set_cons_zero, List.set_cons_succ]
      refine m_move _ rfl (by rfl) ?_
      simp only [Act.put, List.setIfInBounds_toArray, List.set_cons_zero, List.set_cons_succ]
      refine m_value ?_ (by rfl) (fun w hw => ?_) ?_
      rotate_left
      · go_simp
        with_reducible rfl
      simp only [Act.put, List.setIfInBounds_toArray, List.set_cons_zero, List.set_cons_succ]
      refine m_value ?_ (by rfl) (fun w hw => ?_) ?_
      rotate_left
      · go_simp
        with_reducible rfl
      simp only [Act.put, List.setIfInBounds_toArray, List.set_cons_zero, List.set_cons_succ]
      refine m_value ?_ (by rfl) (fun w hw => ?_) ?_
      rotate_left
      · have hc := (hw.1.row.cell 1).trans (rfl : _ = some (Value.int .i64 (A : Int)))
        go_simp
        with_reducible rfl
      simp only [Act.put, List.setIfInBounds_toArray, List.set_cons_zero, List.set_cons_succ]
      refine m_alone (.slice (some ⟨w2.drew.heap.size, 0, none⟩) 256 256) (w2.drew.alloc (.cells Z 5)) (by rfl) (by go_simp) ⟨HQ3.out, trivial⟩ ?_
      simp only [Act.put, List.setIfInBounds_toArray, List.set_cons_zero, List.set_cons_succ]
      refine m_call (by rfl) 20 #[.pointer (some ⟨gr, 0, none⟩), .int .i64 A, .slice (some ⟨w2.drew.heap.size, 0, none⟩) 256 256] (by go_simp) (Calls.mono HHW.out fun e w4 ⟨he, hJ4, hF4⟩ => ⟨_, he, ⟨HQ3.out.frR hF4, trivial⟩, ?_⟩)
      simp only [Act.put, List.setIfInBounds_toArray, List.set_cons_zero, List.set_cons_succ]
      refine m_done ?_
      try simp only [Exit.then]
      clear HHW hmk2
      have hs4 := hF4.size
      have hsb := HB3.out.size
      have c4 := ((HQ3.out.frR hF4).row.cell 0).trans (rfl : _ = some (Value.pointer (some ⟨gr, 0, none⟩)))
      have HFl := hJ4.flush (by omega) (by show (((doN D A K K.length).E ++ [_]) ++ [_]).length ≤ _; rw [List.length_append, List.length_append, hdl]; simp; omega)
      go_wp2_with fail
      refine HFl.mono ?_
      rintro e w5 ⟨⟨r5, rfl⟩, hJ5, hF5⟩
      have hFF : FrR w w5 := hF.out.trans (hF2.trans ((FrR.of_below HB3.out).trans (hF4.trans hF5)))
      clear HFl c4
      go_wp2
      refine bodyPost_end (results_none rfl _ _ _) rfl ?_
      exact ⟨⟨_, rfl⟩, hJ5, hFF⟩
end Go.Proofs.Ytlbapnecmhlgmaa
namespace Go.Proofs.Ytlbapnecmhlgmaa
open Go.RowKit

/-- What Open makes of a disk: where a header stands it is done. -/
def opened (D : Dk) (A sec : Nat) (D' : Dk) : Prop := (∃ cnt, Stands (secF D.B A) D.s A sec cnt ∧ D' = doD D A (wordsL (secF D.B A) cnt)) ∨ ((∀ cnt, ¬ Stands (secF D.B A) D.s A sec cnt) ∧ D' = D)

theorem ropen_bad {w0 w : World} {base gr : Nat} {fv : Value} {D : Dk} (h : RJ w0 base gr fv D w) (A sec : Int) (hbad : sec < 2 ∨ 31 < sec ∨ A < 0 ∨ (D.s : Int) - sec < A) :
    Calls Try.prog 11 #[.pointer (some ⟨gr, 0, none⟩), .int .i64 A, .int .i64 sec] w fun e w' => e = .returned (.tuple #[.pointer none, .int .i64 2]) ∧ w' = w := by
  obtain ⟨rv, R, Fl, h1, h2, h3⟩ := h.ref
  have hc := (h1.row.cell 0).trans (rfl : _ = some fv)
  have hhi := h.ok.hi
  obtain ⟨a, c, rfl, _⟩ := own_slice h1.first
  rw [h2.len] at hc
  generalize D.s = s at *
  clear h h1 h2 h3
  by_cases b1 : sec < 2
  · clear hbad
    go_enter Try.func11, Try.ntmps11
    go_wp2
    go_ret2
    exact ⟨rfl, rfl⟩
  by_cases b2 : 31 < sec
  · clear hbad
    go_enter Try.func11, Try.ntmps11
    go_wp2
    go_ret2
    exact ⟨rfl, rfl⟩
  by_cases b3 : A < 0
  · clear hbad
    go_enter Try.func11, Try.ntmps11
    go_wp2
    go_ret2
    exact ⟨rfl, rfl⟩
  · have b4 : (s : Int) - sec < A := by omega
    have e1 : IntKind.i64.wrap ((s : Int) - sec) = (s : Int) - sec := by rw [IntKind.wrap_i64]; omega
    clear hbad
    go_enter Try.func11, Try.ntmps11
    go_wp2
    go_ret2
    exact ⟨rfl, rfl⟩

theorem rstands_any {w : World} {base b0 gq gr A sec : Nat} {lv fv rv : Value} {P : List Rv} {R : Rk} (h : QAt w base gq gr A sec lv P) (hR : RefAt w b0 gr fv rv R) (hF0 : 1 ≤ R.F.length) (hF1 : R.F.length ≤ 2048) (hfit : A + sec ≤ R.F.length) (hs2 : 2 ≤ sec) (hs31 : sec ≤ 31) (f : Nat → Int) (hf : ∀ i, 0 ≤ f i ∧ f i < 256) :
    Calls Try.prog 34 #[.pointer (some ⟨gq, 0, none⟩), .string (sStr f)] w fun e w' => Below w.heap.size w w' ∧
      ((∃ cnt v, Stands f R.F.length A sec cnt ∧ e = .returned v ∧ NumsAt w' w.heap.size v (wordsL f cnt)) ∨ ((∀ cnt, ¬ Stands f R.F.length A sec cnt) ∧ e = .returned (.slice none 0 0))) := by
  by_cases hun : unmarked f
  · exact (rstands_un f w hun).mono fun e w' ⟨h1, h2⟩ => ⟨by rw [h2]; exact Below.refl _ _, .inr ⟨fun cnt hc => hc.mark hun, h1⟩⟩
  · have hm : ((s8 f).toList == [115, 116, 105, 108, 108, 119, 97, 108]) = true := by
      unfold unmarked at hun
      simpa using hun
    have hwb := word_bd f hf 1
    by_cases hc : word f 1 < 1 ∨ (sec : Int) - 1 < word f 1
    · exact (rstands_cnt h hs2 hs31 f hf hm hc).mono fun e w' ⟨h1, h2⟩ => ⟨h2, .inr ⟨fun cnt hst => by have := hst.count; have := hst.lo; have := hst.hi; omega, h1⟩⟩
    · obtain ⟨cnt, hcnt⟩ : ∃ cnt : Nat, word f 1 = cnt := ⟨(word f 1).toNat, by omega⟩
      refine (rstands_go h hR hF0 hF1 hfit hs31 f hf hm cnt hcnt (by omega) (by omega)).mono ?_
      rintro e w' ⟨hb, ⟨hall, v, he, hN⟩ | ⟨hno, he⟩⟩
      · exact ⟨hb, .inl ⟨cnt, v, ⟨fun hu => hun hu, hcnt, by omega, by omega, hall⟩, he, hN⟩⟩
      · exact ⟨hb, .inr ⟨fun c hc => hno (by
          have h1 := hc.count
          have h2 := hc.ok
          rw [hcnt] at h1
          have h3 : cnt = c := by omega
          subst h3
          exact h2), he⟩⟩
theorem built50 (gr A sec : Nat) : Try.prog.built 50 [(0, .pointer (some ⟨gr, 0, none⟩)), (1, .int .i64 A), (2, .int .i64 sec)] = some #[.pointer (some ⟨gr, 0, none⟩), .int .i64 A, .int .i64 sec, .slice none 0 0] := by kernel_rfl

set_option maxRecDepth 20000 in
set_option maxHeartbeats 2000000 in
theorem ropen_ok {w0 w : World} {base gr : Nat} {fv : Value} {D : Dk} (h : RJ w0 base gr fv D w) (hbase : base ≤ w.heap.size) (hL : D.E.length ≤ 400000) (A sec : Nat) (h2 : 2 ≤ sec) (h31 : sec ≤ 31) (hfit : A + sec ≤ D.s) :
    Calls Try.prog 11 #[.pointer (some ⟨gr, 0, none⟩), .int .i64 A, .int .i64 sec] w fun e w' => ∃ gq D', e = .returned (.tuple #[.pointer (some ⟨gq, 0, none⟩), .int .i64 0]) ∧ opened D A sec D' ∧ RJ w0 base gr fv D' w' ∧ QAt w' w.heap.size gq gr A sec (.slice none 0 0) [] ∧ FrR w w' := by
  have hhi := h.ok.hi
  obtain ⟨rv, R, Fl, h1, h2', h3⟩ := h.ref
  have hc := (h1.row.cell 0).trans (rfl : _ = some fv)
  obtain ⟨a, c, hfv, _⟩ := own_slice h1.first
  rw [hfv, h2'.len] at hc
  have hQ : QAt (w.alloc (.cells #[.pointer (some ⟨gr, 0, none⟩), .int .i64 A, .int .i64 sec, .slice none 0 0] 50)) w.heap.size w.heap.size gr A sec (.slice none 0 0) [] := ⟨Row.new w _ 50, World.ownsRow_nil _ _ _ _, Nat.le_refl _⟩
  have hbA : Below w.heap.size w (w.alloc (.cells #[.pointer (some ⟨gr, 0, none⟩), .int .i64 A, .int .i64 sec, .slice none 0 0] 50)) := (Below.refl _ _).alloc (Nat.le_refl _) _
  have hJ := h.below hbA hbase
  have hRd := hJ.read (by omega) A (by omega)
  have hfb : ∀ j, 0 ≤ secF D.B A j ∧ secF D.B A j < 256 := fun j => h.ok.B _
  have hR1 : RefAt (w.alloc (.cells #[.pointer (some ⟨gr, 0, none⟩), .int .i64 A, .int .i64 sec, .slice none 0 0] 50)) base gr fv rv R := h1.below hbA
  have hlen := h2'.len
  have HJ : Hid _ := hJ
  have HQ : Hid _ := hQ
  have HRd : Hid _ := hRd
  have HFB : Hid _ := hfb
  have HB : Hid _ := hbA
  have HR1 : Hid _ := hR1
  have e1 : IntKind.i64.wrap ((D.s : Int) - sec) = (D.s : Int) - sec := by rw [IntKind.wrap_i64]; omega
  have q1 : ¬ (sec : Int) < 2 := by omega
  have q2 : ¬ (31 : Int) < sec := by omega
  have q4 : ¬ (D.s : Int) - sec < A := by omega
  obtain ⟨s, hs⟩ : ∃ s, s = D.s := ⟨_, rfl⟩
  rw [← hs] at hc e1 q4
  have HSS : Hid _ := hs
  clear h h1 h2' h3 hfv hJ hQ hRd hfb hbA hR1 hs
  have hsw := HB.out.size
  have HST := rstands_any HQ.out HR1.out (by rw [hlen]; omega) (by rw [hlen]; exact hhi) (by rw [hlen]; exact hfit) h2 h31 (secF D.B A) HFB.out
  rw [hlen] at HST
  have HHST : Hid _ := HST
  clear HST
  generalize hSS : sStr (secF D.B A) = SS at *
  clear hSS
  go_enter Try.func11, Try.ntmps11
  go_wp2_with fail
  refine Calls.mono HRd.out ?_
  rintro e w' ⟨rfl, hw'⟩
  subst w'
  clear HRd hc
  go_wp2_with fail
  refine Calls.mono HHST.out ?_
  rintro e w2 ⟨hb2, ⟨cnt, v, hst, rfl, hN⟩ | ⟨hno, rfl⟩⟩
  · obtain ⟨a', c', hv, hrest⟩ := hN.ex
    rw [wordsL_len] at hv
    have hcl := hst.lo
    have hcl' : (0 : Int) < cnt := by omega
    have HST : Hid _ := hst
    have hb0 := HB.out.trans (hb2.mono hsw)
    have HDO := rdo_ok (HJ.out.below hb2 (by omega)) (by have := hb2.size; omega) (by omega) (HQ.out.below hb2) hfit hN (by rw [wordsL_len]; exact hst.hi) h31 (fun i hi => by
      rw [wordsL_len] at hi
      rw [wordsL_at _ _ _ hi]
      have := (hst.ok i hi).1
      have := (word_bd _ HFB.out (2 + i)).1
      omega)
    have HHD : Hid _ := HDO
    clear HDO hN hrest HHST hst
    subst hv
    go_wp2_with fail
    refine Calls.mono HHD.out ?_
    rintro e w3 ⟨⟨r, rfl⟩, hJ3, hF3⟩
    clear HHD
    go_wp2
    go_ret2
    exact ⟨w.heap.size, _, rfl, .inl ⟨cnt, HST.out, rfl⟩, hJ3, (HQ.out.below hb2).frR hF3, (FrR.of_below hb0).trans hF3⟩
  · have HNO : Hid _ := hno
    clear hno HHST
    have hb0 := HB.out.trans (hb2.mono hsw)
    go_wp2
    go_ret2
    exact ⟨w.heap.size, D, rfl, .inr ⟨HNO.out, rfl⟩, HJ.out.below hb2 (by omega), HQ.out.below hb2, FrR.of_below hb0⟩
end Go.Proofs.Ytlbapnecmhlgmaa
