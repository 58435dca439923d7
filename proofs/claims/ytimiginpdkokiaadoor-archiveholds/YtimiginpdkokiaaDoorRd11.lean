/- My own work: the walk of Decode. -/
import Derived.Test.YtimiginpdkokiaaDoorRd10
namespace Go.Proofs.YtimiginpdkokiaaDoor
open Go.RowKit

theorem resultsDec : Tryd.f13.results = #[.cell 2 26, .tmp 3] := by kernel_rfl
/-- Bytes that came in, or are one's own. -/
structure InB (w : World) (a : Option Addr) (b off : Nat) (X : List UInt8) (c : Nat) : Prop where
  at' : 0 < X.length → a = some ⟨b, off, none⟩
  cell : ∀ i, i < X.length → w.cell? ⟨b, off + i, none⟩ = some (.int .u8 (fU X i))
  le : X.length ≤ c
  cm : c ≤ 9223372036854775807
theorem InB.keep {w w' : World} {a : Option Addr} {b off : Nat} {X : List UInt8} {c : Nat} (h : InB w a b off X c) (hb : Below w.heap.size w w') : InB w' a b off X c :=
  ⟨h.at', fun i hi => (World.cell?_of_block (w := w) (hb.block b (World.block_lt_of_cell? w _ (h.cell i hi)))).trans (h.cell i hi), h.le, h.cm⟩
/-- What Decode tells. -/
def DecPost (X : List UInt8) (w : World) (r : Ending) (w' : World) : Prop :=
  Below w.heap.size w w' ∧ match decF (fU X) X.length with
    | .error e => e ≠ 0 ∧ r = .returned (.tuple #[.agg node0, .int .i64 e])
    | .ok n => ∃ C, r = .returned (.tuple #[.agg C, .int .i64 0]) ∧ NodeOn w' (fun b => w.heap.size ≤ b ∧ b < w'.heap.size) n C
theorem Gr.below {I : Inp} {w w' : World} {B : Nat} (h : Gr I w w') (h1 : B ≤ I.gR) (h2 : B ≤ w.heap.size) : Below B w w' :=
  ⟨h.os, h.tape, h.output, h.size, fun k hk => h.block k (by omega) (fun e => by simp only [Option.some.injEq] at e; omega)⟩
set_option maxRecDepth 20000 in
set_option maxHeartbeats 8000000 in
theorem decode_ok (X : List UInt8) (a : Option Addr) (b off c : Nat) (w : World) (hG : GH w) (h : InB w a b off X c) : Calls Tryd.prog 13 #[.slice a X.length c] w fun r w' => DecPost X w r w' := by
  have hb0 : Below w.heap.size w (w.alloc (.cells node0 26)) := (Below.refl _ _).alloc (Nat.le_refl _) _
  have hsz0 : (w.alloc (.cells node0 26)).heap.size = w.heap.size + 1 := by simp
  have hR0 : Row (w.alloc (.cells node0 26)) w.heap.size node0 26 := Row.new w _ 26
  have hcm := h.cm
  have hle := h.le
  by_cases hbig : 1048576 < X.length
  · have hbig' : (1048576 : Int) < (X.length : Int) := by omega
    have HS : Hid (decF (fU X) X.length = .error 3) := by show _ = _; unfold decF; rw [if_pos hbig]
    have HP : Hid (∀ r w', Below w.heap.size w w' → r = .returned (.tuple #[.agg node0, .int .i64 3]) → DecPost X w r w') := fun r w' hb hr => ⟨hb, by rw [HS.out]; exact ⟨by omega, hr⟩⟩
    obtain ⟨NP, hNP⟩ : ∃ NP, NP = DecPost X w := ⟨_, rfl⟩
    rw [← hNP] at HP ⊢
    have HB0 : Hid (Below w.heap.size w ((w.alloc (.cells node0 26)).setRow w.heap.size node0)) := below_setRow hb0 (Nat.le_refl _) _
    clear hNP hb0 hG h
    go_enter Tryd.func13, Tryd.ntmps13
    go_wp2_with (refine wpList_store_row rfl 26 _ _ rfl w.heap.size node0 rfl rfl 26 node0 hR0 info0 rfl node0_one ?_)
    refine bodyPost_ret (results_cell_row2 resultsDec _ _ w.heap.size 26 node0 (0, 0) _ rfl hR0.setRow Tryd.underlying26 rfl info0) rfl ?_
    exact HP.out _ _ HB0.out rfl
  · have hbig' : ¬ (1048576 : Int) < (X.length : Int) := by omega
    obtain ⟨w1, hw1⟩ : ∃ w1, w1 = (w.alloc (.cells node0 26)).alloc (.cells #[.slice a X.length c, .int .i64 0] 64) := ⟨_, rfl⟩
    have hba : Below (w.alloc (.cells node0 26)).heap.size (w.alloc (.cells node0 26)) w1 := by rw [hw1]; exact (Below.refl _ _).alloc (Nat.le_refl _) _
    have hb1 : Below w.heap.size w w1 := hb0.trans (hba.mono (by omega))
    have hs1 : w1.heap.size = w.heap.size + 2 := by rw [hw1]; simp
    have hRg : Row w1 (w.heap.size + 1) #[.slice a X.length c, .int .i64 0] 64 := by
      have := Row.new (w.alloc (.cells node0 26)) #[.slice a X.length c, .int .i64 0] 64
      rw [hsz0, ← hw1] at this
      exact this
    have hi1 := h.keep hb1
    have hRdr : Rdr w1 ⟨w.heap.size + 1, b, off, X.length, c, a, fU X⟩ 0 := ⟨hRg, hi1.at', hi1.cell, fU_bd X, fun hL => by have := World.block_lt_of_cell? w _ (h.cell 0 hL); show b ≠ w.heap.size + 1; simp only at this; omega, Nat.zero_le _, hle, hcm, by show X.length ≤ 1048576; omega⟩
    have HAR : Hid (Calls Tryd.prog 25 #[.pointer (some ⟨w.heap.size + 1, 0, none⟩)] w1 fun r w' => ArchPost ⟨w.heap.size + 1, b, off, X.length, c, a, fU X⟩ w1 (archF (fU X) X.length) r w') := archive_ok ⟨w.heap.size + 1, b, off, X.length, c, a, fU X⟩ w1 hRdr
    have HR1 : Hid (Row w1 w.heap.size node0 26) := hR0.below hba hR0.lt
    have HB1 : Hid (Below w.heap.size w w1) := hb1
    have HG : Hid (∀ wx, Below w.heap.size w wx → GH wx) := fun wx hx => hG.below hx
    have HPE : Hid (∀ r w' e, decF (fU X) X.length = .error e → e ≠ 0 → Below w.heap.size w w' → r = .returned (.tuple #[.agg node0, .int .i64 e]) → DecPost X w r w') := fun r w' e hd he hb hr => ⟨hb, by rw [hd]; exact ⟨he, hr⟩⟩
    have HPO : Hid (∀ r w' n, decF (fU X) X.length = .ok n → Below w.heap.size w w' → (∃ C, r = .returned (.tuple #[.agg C, .int .i64 0]) ∧ NodeOn w' (fun b => w.heap.size ≤ b ∧ b < w'.heap.size) n C) → DecPost X w r w') := fun r w' n hd hb hr => ⟨hb, by rw [hd]; exact hr⟩
    have HDF : Hid (decF (fU X) X.length = match archF (fU X) X.length with | .error e => .error e | .ok n => if rightE n = 0 then .ok n else .error (rightE n)) := by show _ = _; unfold decF; rw [if_neg hbig]; rfl
    obtain ⟨NP, hNP⟩ : ∃ NP, NP = DecPost X w := ⟨_, rfl⟩
    rw [← hNP] at HPE HPO ⊢
    have HW1 : Hid (w1 = (w.alloc (.cells node0 26)).alloc (.cells #[.slice a X.length c, .int .i64 0] 64)) := hw1
    clear hNP hb0 hG h hba hb1 hRg hi1 hRdr hR0 hw1 hsz0
    go_enter Tryd.func13, Tryd.ntmps13
    go_wp2_with fail
    rw [← HW1.out]
    refine Calls.mono HAR.out ?_
    clear HAR
    rintro r w2 ⟨hg2, hpost⟩
    have hgb : Below w.heap.size w1 w2 := Gr.below hg2 (by show w.heap.size ≤ w.heap.size + 1; omega) (by omega)
    have hR2 : Row w2 w.heap.size node0 26 := hg2.row HR1.out (show w.heap.size ≠ w.heap.size + 1 by omega)
    have hB2 : Below w.heap.size w w2 := HB1.out.trans hgb
    have hs2 := hg2.size
    clear hg2 hgb
    cases har : archF (fU X) X.length with
    | error er =>
      rw [har] at hpost
      obtain ⟨C, ev, rfl, h5, hC1, he⟩ := hpost
      have hCi : (Tryd.prog.info? 26).map (·.size) = some C.size := by rw [infoN, h5]
      have hba : Below w2.heap.size w2 (w2.alloc (.cells C 26)) := (Below.refl _ _).alloc (Nat.le_refl _) _
      have hB3 : Below w.heap.size w (w2.alloc (.cells C 26)) := hB2.trans (hba.mono hB2.size)
      have HB3 : Hid (Below w.heap.size w (w2.alloc (.cells C 26))) := hB3
      have HER : Hid (Calls Tryd.prog 26 #[ev] (w2.alloc (.cells C 26)) fun r w' => r = .returned (.int .i64 er) ∧ Below (w2.alloc (.cells C 26)).heap.size (w2.alloc (.cells C 26)) w') := errnoOf_err ev er _ (HG.out _ hB3) (he.keep hba)
      have HR3 : Hid (Row (w2.alloc (.cells C 26)) w.heap.size node0 26) := hR2.below hba hR2.lt
      have hne := arch_err har
      have HS : Hid (decF (fU X) X.length = .error er) := by show _ = _; rw [HDF.out, har]
      clear har hba hB3 he hR2 hB2 HDF
      go_wp2_with (refine wpList_store_new rfl 26 _ _ rfl w2 _ C 26 rfl w2.heap.size rfl rfl rfl hCi h5.symm hC1 ?_)
      generalize w2.alloc (.cells C 26) = w3 at *
      refine Calls.mono HER.out ?_
      rintro r w4 ⟨rfl, hb4⟩
      have hR4 : Row w4 w.heap.size node0 26 := HR3.out.below hb4 HR3.out.lt
      have HB4 : Hid (Below w.heap.size w (w4.setRow w.heap.size node0)) := below_setRow (HB3.out.trans (hb4.mono HB3.out.size)) (Nat.le_refl _) _
      clear hb4 HER HR3 HB3
      go_wp2_with (refine wpList_store_row rfl 26 _ _ rfl w.heap.size node0 rfl rfl 26 node0 hR4 info0 rfl node0_one ?_)
      refine bodyPost_ret (results_cell_row2 resultsDec _ _ w.heap.size 26 node0 (0, 0) _ rfl hR4.setRow Tryd.underlying26 rfl info0) rfl ?_
      exact HPE.out _ _ er HS.out hne HB4.out rfl
    | ok n =>
      rw [har] at hpost
      obtain ⟨C, rfl, hno⟩ := hpost
      have h5 := hno.at'.size
      have hC1 := hno.at'.one
      have hcnt : n.count ≤ 16000 := by have := (arch_sound (fU_bd X) har).2.2; omega
      have hCi : (Tryd.prog.info? 26).map (·.size) = some C.size := by rw [infoN, h5]
      have hba : Below w2.heap.size w2 (w2.alloc (.cells C 26)) := (Below.refl _ _).alloc (Nat.le_refl _) _
      have hB3 : Below w.heap.size w (w2.alloc (.cells C 26)) := hB2.trans (hba.mono hB2.size)
      have HB3 : Hid (Below w.heap.size w (w2.alloc (.cells C 26))) := hB3
      have HR3 : Hid (Row (w2.alloc (.cells C 26)) w.heap.size node0 26) := hR2.below hba hR2.lt
      have HR5 : Hid (Row (w2.alloc (.cells C 26)) w2.heap.size C 26) := Row.new w2 C _
      have HNO : Hid (NodeOn (w2.alloc (.cells C 26)) (fun b => w1.heap.size ≤ b ∧ b < w2.heap.size) n C) := hno.keep (w' := w2.alloc (.cells C 26)) fun b hb => hba.block b hb.2
      have HDF2 : Hid (decF (fU X) X.length = if rightE n = 0 then .ok n else .error (rightE n)) := by show _ = _; rw [HDF.out, har]
      clear har hba hB3 hno hR2 hB2 HDF
      go_wp2_with (refine wpList_store_new rfl 26 _ _ rfl w2 _ C 26 rfl w2.heap.size rfl rfl rfl hCi h5.symm hC1 ?_)
      generalize w2.alloc (.cells C 26) = w3 at *
      refine Calls.mono (errnoOf_nil w3) ?_
      rintro r w4 ⟨rfl, hb4⟩
      have HR4 : Hid (Row w4 w.heap.size node0 26) := HR3.out.below hb4 HR3.out.lt
      have HR54 : Hid (Row w4 w2.heap.size C 26) := HR5.out.below hb4 HR5.out.lt
      have HB4 : Hid (Below w.heap.size w w4) := HB3.out.trans (hb4.mono HB3.out.size)
      have HN4 : Hid (NodeOn w4 (fun b => w1.heap.size ≤ b ∧ b < w2.heap.size) n C) := HNO.out.keep (w' := w4) fun b hb => hb4.block b (by have := HR5.out.lt; omega)
      have HRI : Hid (Calls Tryd.prog 17 #[.agg C] w4 fun e w' => e = .returned (.int .i64 (rightE n)) ∧ Below w4.heap.size w4 w') := right_ok n w4 C HN4.out.at' hcnt
      clear hb4 HR3 HR5 HB3 HNO
      go_wp2_with (refine wpList_load_row rfl 26 _ rfl w2.heap.size rfl 26 C (0, 0) _ HR54.out Tryd.underlying26 rfl hCi ?_)
      refine Calls.mono HRI.out ?_
      rintro r w5 ⟨rfl, hb5⟩
      have hR5 : Row w5 w.heap.size node0 26 := HR4.out.below hb5 HR4.out.lt
      have hR55 : Row w5 w2.heap.size C 26 := HR54.out.below hb5 HR54.out.lt
      have HB5 : Hid (Below w.heap.size w w5) := HB4.out.trans (hb5.mono HB4.out.size)
      have HN5 : Hid (NodeOn w5 (fun b => w1.heap.size ≤ b ∧ b < w2.heap.size) n C) := HN4.out.keep (w' := w5) fun b hb => hb5.block b (by have := HR54.out.lt; omega)
      clear hb5 HRI HR4 HR54 HB4 HN4
      by_cases hz : rightE n = 0
      · have HS : Hid (decF (fU X) X.length = .ok n) := by show _ = _; rw [HDF2.out, if_pos hz]
        clear HDF2
        go_wp2_with (first
          | refine wpList_load_row rfl 26 _ rfl w2.heap.size rfl 26 C (0, 0) _ hR55 Tryd.underlying26 rfl hCi ?_
          | refine wpList_store_row rfl 26 _ _ rfl w.heap.size C rfl rfl 26 node0 hR5 hCi (show node0.size = C.size by rw [h5]; rfl) hC1 ?_)
        refine bodyPost_ret (results_cell_row2 resultsDec _ _ w.heap.size 26 C (0, 0) _ rfl hR5.setRow Tryd.underlying26 rfl hCi) rfl ?_
        have hss : (w5.setRow w.heap.size C).heap.size = w5.heap.size := by simp [World.setRow]
        have hl5 := hR55.lt
        exact HPO.out _ _ n HS.out (below_setRow HB5.out (Nat.le_refl _) _) ⟨C, rfl, (HN5.out.keep (w' := w5.setRow w.heap.size C) fun b hb => setRow_other w5 _ b C (by omega)).mono fun b hb => ⟨by omega, by rw [hss]; omega⟩⟩
      · have HS : Hid (decF (fU X) X.length = .error (rightE n)) := by show _ = _; rw [HDF2.out, if_neg hz]
        clear HDF2
        go_wp2_with (refine wpList_store_row rfl 26 _ _ rfl w.heap.size node0 rfl rfl 26 node0 hR5 info0 rfl node0_one ?_)
        refine bodyPost_ret (results_cell_row2 resultsDec _ _ w.heap.size 26 node0 (0, 0) _ rfl hR5.setRow Tryd.underlying26 rfl info0) rfl ?_
        exact HPE.out _ _ _ HS.out hz (below_setRow HB5.out (Nat.le_refl _) _) rfl
end Go.Proofs.YtimiginpdkokiaaDoor
