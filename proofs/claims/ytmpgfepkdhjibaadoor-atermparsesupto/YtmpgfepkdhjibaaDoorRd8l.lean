/- My own work: the walks of errnoOf and Parse. -/
import Derived.Test.YtmpgfepkdhjibaaDoorRd8k
import Derived.Test.YtmpgfepkdhjibaaDoorAs
namespace Go.Proofs.YtmpgfepkdhjibaaDoor
open Go.RowKit

/-- What errors.As reads of errors.errorType. -/
def GH (w : World) : Prop := w.cell? ⟨1, 0, none⟩ = some (.iface 127 (.agg #[.pointer (some ⟨2, 63, none⟩)]))
theorem GH.below {w w' : World} (h : GH w) (hb : Below w.heap.size w w') : GH w' := (hb.cell (World.block_lt_of_cell? _ _ h)).trans h
set_option maxRecDepth 20000 in
theorem errnoOf_nil (w : World) : Calls Tryd.prog 26 #[.nilIface] w fun ev w' => ev = .returned (.int .i64 0) ∧ Below w.heap.size w w' := by
  have hb : Below w.heap.size w (w.alloc (.cells #[.pointer none] 92)) := (Below.refl _ _).alloc (Nat.le_refl _) _
  go_enter Tryd.func26, Tryd.ntmps26
  go_wp2_with fail
  refine Calls.mono (AsK.as_nil _ _) ?_
  rintro ev w1 ⟨rfl, rfl⟩
  go_wp2
  go_ret
  exact ⟨rfl, hb⟩
set_option maxRecDepth 20000 in
theorem errnoOf_err (ev : Value) (e : Int) (w : World) (h : GH w) (he : ErV w ev (some e)) : Calls Tryd.prog 26 #[ev] w fun r w' => r = .returned (.int .i64 e) ∧ Below w.heap.size w w' := by
  obtain ⟨g, q, rfl, hr⟩ := he
  have hb : Below w.heap.size w (w.alloc (.cells #[.pointer none] 92)) := (Below.refl _ _).alloc (Nat.le_refl _) _
  have HA := AsK.as_hit ⟨g, 0, none⟩ ⟨w.heap.size, 0, none⟩ (.pointer none) (w.alloc (.cells #[.pointer none] 92)) (h.below hb) (by simp) (by simp)
  have HA' : Calls Tryd.prog 53 #[.iface 92 (.pointer (some ⟨g, 0, none⟩)), .iface 101 (.pointer (some ⟨w.heap.size, 0, none⟩))] (w.alloc (.cells #[.pointer none] 92)) fun ev w' => ev = .returned (.bool true) ∧ Below w.heap.size w w' ∧ w'.cell? ⟨w.heap.size, 0, none⟩ = some (.pointer (some ⟨g, 0, none⟩)) := HA.mono fun ev w' ⟨he, hw⟩ => ⟨he, by
    subst hw
    exact ((((hb.alloc hb.size _).alloc (by simp; omega) _).alloc (by simp; omega) _).alloc (by simp; omega) _).setCell (Nat.le_refl _) _, by
    subst hw
    exact ((((((Row.new w #[.pointer none] 92).alloc _).alloc _).alloc _).alloc _).setCell (i := 0) (.pointer (some ⟨g, 0, none⟩))).cell 0⟩
  have HH : Hid _ := HA'
  have HR : Hid (∀ wx, Below w.heap.size w wx → wx.cell? ⟨g, 0, none⟩ = some (.int .i64 e)) := fun wx hx => ((hr.below hx hr.lt).cell 0).trans rfl
  clear HA HA' hb h hr
  go_enter Tryd.func26, Tryd.ntmps26
  go_wp2_with fail
  refine Calls.mono HH.out ?_
  rintro ev w1 ⟨rfl, hb1, ct⟩
  have ce := HR.out w1 hb1
  clear HH
  go_wp2
  go_ret
  exact ⟨rfl, hb1⟩
theorem resultsParse : Tryd.f15.results = #[.cell 2 27, .tmp 3] := by kernel_rfl
/-- What Parse tells. -/
def ParsePost (s : ByteArray) (w : World) (r : Ending) (w' : World) : Prop :=
  Below w.heap.size w w' ∧ ((∃ cs d, r = .returned (.tuple #[.agg cs, .int .i64 0]) ∧ DrvAt w' d cs ∧ s.size ≤ 1048576 ∧ bl s = drvE d ∧ rightE d = 0) ∨ (∃ e, e ≠ 0 ∧ Fails s e ∧ r = .returned (.tuple #[.agg zDrv, .int .i64 e])))
theorem Fails.ne {s : ByteArray} {e : Int} (h : Fails s e) : e ≠ 0 := by
  rcases h with ⟨_, rfl⟩ | ⟨_, ⟨_, rfl⟩ | ⟨y, _, h1, rfl⟩⟩
  · decide
  · decide
  · exact h1
set_option maxRecDepth 20000 in
set_option maxHeartbeats 8000000 in
theorem parse_ok (s : ByteArray) (w : World) (hT : ETab w) (hG : GH w) : Calls Tryd.prog 15 #[.string s] w fun r w' => ParsePost s w r w' := by
  obtain ⟨RP, hRP⟩ : ∃ RP, RP = ParsePost s w := ⟨_, rfl⟩
  have HRP : Hid (∀ r w', ParsePost s w r w' → RP r w') := fun r w' h => by rw [hRP]; exact h
  rw [← hRP]
  have hb0 : Below w.heap.size w (w.alloc (.cells zDrv 27)) := below_new (Below.refl _ _) _
  have hT0 : ETab (w.alloc (.cells zDrv 27)) := by
    obtain ⟨t, fr, ht⟩ := hT
    exact ⟨t, fr, (hb0.block 0 (ETab.pos ⟨t, fr, ht⟩)).trans ht⟩
  have HC := read_ok s (w.alloc (.cells zDrv 27)) hT0
  have HB0 : Hid (Below w.heap.size w (w.alloc (.cells zDrv 27))) := hb0
  have HR0 : Hid (Row (w.alloc (.cells zDrv 27)) w.heap.size zDrv 27) := Row.new w _ _
  have HSZ : Hid ((w.alloc (.cells zDrv 27)).heap.size = w.heap.size + 1) := by show _ = _; simp
  have HGH : Hid (GH w) := hG
  clear hb0 hT0 hT hG hRP
  go_enter Tryd.func15, Tryd.ntmps15
  go_wp2_with fail
  refine Calls.mono HC ?_
  rintro e w1 ⟨hb1, cs, ev, d, er, g', rfl, hg', hdv, hev, hgot⟩
  obtain ⟨cs', e1, hda, hcs, hone⟩ := hdv.at
  obtain rfl : cs = cs' := Value.agg.inj e1
  have hci : (Tryd.prog.info? 27).map (·.size) = some cs.size := by rw [hcs]; exact info_drv
  have hs1 := hb1.size
  have hbn : Below w1.heap.size w1 (w1.alloc (.cells cs 27)) := below_new (Below.refl _ _) _
  have hs0 := HSZ.out
  have HB2 : Hid (Below w.heap.size w (w1.alloc (.cells cs 27))) := (HB0.out.trans (hb1.mono (by omega))).trans (hbn.mono (by omega))
  have hR1 : Row w1 w.heap.size zDrv 27 := HR0.out.below hb1 (by omega)
  have HR2 : Hid (Row (w1.alloc (.cells cs 27)) w.heap.size zDrv 27) := hR1.alloc _
  have HR4 : Hid (Row (w1.alloc (.cells cs 27)) w1.heap.size cs 27) := Row.new w1 _ _
  have HD2 : Hid (DrvO g' (w1.alloc (.cells cs 27)) (.agg cs) d) := hdv.keep fun k _ hlt => hbn.block k hlt
  have HGL : Hid (w.heap.size < g') := by show _ < _; omega
  have HK : Hid (w1.heap.size ≠ w.heap.size) := by show _ ≠ _; omega
  have HG2 : Hid (GH (w1.alloc (.cells cs 27))) := HGH.out.below HB2.out
  have HEV : Hid (ErV (w1.alloc (.cells cs 27)) ev er) := by
    show ErV _ _ _
    cases er with
    | none => exact hev
    | some e =>
      obtain ⟨k, q, e3, e4⟩ := hev
      exact ⟨k, q, e3, e4.alloc _⟩
  have HGOT : Hid (Got s d er) := hgot
  clear hb1 hg' hdv hev hgot hda hbn hR1 HB0 HR0 HSZ HGH HC e1 hs0 hs1
  go_wp2_with (refine store_new rfl 27 _ _ rfl w1 _ cs 27 rfl w1.heap.size rfl rfl rfl hci (by rw [hcs]; rfl) hone ?_)
  generalize hk4 : w1.heap.size = k4 at *
  generalize w1.alloc (.cells cs 27) = w2 at *
  clear hk4
  cases er with
  | none =>
    obtain rfl : ev = .nilIface := HEV.out
    have HC := errnoOf_nil w2
    go_wp2_with fail
    refine Calls.mono HC ?_
    rintro r w3 ⟨rfl, hb3⟩
    have hR3 : Row w3 w.heap.size zDrv 27 := HR2.out.below hb3 HR2.out.lt
    have hR43 : Row w3 k4 cs 27 := HR4.out.below hb3 HR4.out.lt
    have HE : Hid (ParsePost s w (.returned (.tuple #[.agg cs, .int .i64 0])) (w3.setRow w.heap.size cs)) := by
      refine ⟨(HB2.out.trans (hb3.mono HB2.out.size)).trans (below_setRow (Nat.le_refl _) _), .inl ⟨cs, d, rfl, ?_, ?_⟩⟩
      · have h3 := HD2.out.keep (w' := w3.setRow w.heap.size cs) fun k hk hlt => (setRow_other w3 w.heap.size k cs (by have := HGL.out; omega)).trans (hb3.block k hlt)
        obtain ⟨cs', e1, hda, _⟩ := h3.at
        obtain rfl : cs = cs' := Value.agg.inj e1
        exact hda
      · rcases HGOT.out with ⟨_, h1, h2, h3⟩ | ⟨e, h1, _⟩
        · exact ⟨h1, h2, h3⟩
        · cases h1
    clear hb3 HC HEV HGOT HB2 HR2 HR4 HD2 HG2
    go_wp2_with (first
        | refine wpList_load_row rfl 27 _ rfl k4 rfl 27 cs (0, 0) _ hR43 Tryd.underlying27 rfl hci ?_
        | refine wpList_store_row rfl 27 _ _ rfl w.heap.size cs rfl rfl 27 zDrv hR3 hci (by rw [hcs]; rfl) hone ?_)
    refine bodyPost_ret (results_cell_row2 resultsParse _ _ w.heap.size 27 cs (0, 0) _ rfl (Row.setRow hR3) Tryd.underlying27 rfl hci) rfl ?_
    exact HRP.out _ _ HE.out
  | some en =>
    have hf : Fails s en := by
      rcases HGOT.out with ⟨h1, _⟩ | ⟨e, h1, h2⟩
      · cases h1
      · rw [Option.some.inj h1]
        exact h2
    have hne := hf.ne
    have hnb : (en == 0) = false := by simpa using hne
    have HC := errnoOf_err ev en w2 HG2.out HEV.out
    have HFs : Hid (Fails s en) := hf
    clear hf
    go_wp2_with fail
    refine Calls.mono HC ?_
    rintro r w3 ⟨rfl, hb3⟩
    have hR3 : Row w3 w.heap.size zDrv 27 := HR2.out.below hb3 HR2.out.lt
    have HE : Hid (ParsePost s w (.returned (.tuple #[.agg zDrv, .int .i64 en])) (w3.setRow w.heap.size zDrv)) := ⟨(HB2.out.trans (hb3.mono HB2.out.size)).trans (below_setRow (Nat.le_refl _) _), .inr ⟨en, hne, HFs.out, rfl⟩⟩
    clear hb3 HC HEV HGOT HB2 HR2 HR4 HD2 HG2
    go_wp2_with (refine wpList_store_row rfl 27 _ _ rfl w.heap.size zDrv rfl rfl 27 zDrv hR3 info_drv rfl (drv_one _ _ _ _ _ _ _ _ _ _ _ _ _ _ _ _ _) ?_)
    refine bodyPost_ret (results_cell_row2 resultsParse _ _ w.heap.size 27 zDrv (0, 0) _ rfl (Row.setRow hR3) Tryd.underlying27 rfl info_drv) rfl ?_
    exact HRP.out _ _ HE.out
end Go.Proofs.YtmpgfepkdhjibaaDoor
