/- My own work: the law of Parse by walk. -/
import Derived.Test.YtmpgfepkdhjibaaDoorRRe
import Derived.Test.YtmpgfepkdhjibaaDoorLawB8
namespace Go.Proofs.YtmpgfepkdhjibaaDoor
open Go.RowKit

/-- What is told of a text. -/
def Told (s : ByteArray) (d : Dv) (e : Int) : Prop := (e = 0 ∧ bl s = drvE d ∧ rightE d = 0) ∨ (Fails s e ∧ d = dv0)
theorem fails_no {s : ByteArray} {e : Int} {d : Dv} (hs : s.size ≤ 1048576) (h : Fails s e) (hd : bl s = drvE d) (hr : rightE d = 0) : False := by
  rcases h with ⟨h, _⟩ | ⟨_, ⟨h, _⟩ | ⟨y, h1, h2, _⟩⟩
  · omega
  · exact h d hd
  · have e := (drvE_pf y d [] [] (by rw [List.append_nil, List.append_nil, ← h1, ← hd])).1
    rw [e] at h2
    exact h2 hr
theorem fails_one {s : ByteArray} {e e' : Int} (hs : s.size ≤ 1048576) (h : Fails s e) (h' : Fails s e') : e = e' := by
  rcases h with ⟨h, _⟩ | ⟨_, ⟨h, rfl⟩ | ⟨y, h1, h2, rfl⟩⟩
  · omega
  · rcases h' with ⟨h', _⟩ | ⟨_, ⟨_, rfl⟩ | ⟨y, h1, _⟩⟩
    · omega
    · rfl
    · exact absurd h1 (h y)
  · rcases h' with ⟨h', _⟩ | ⟨_, ⟨h, _⟩ | ⟨y', h1', _, rfl⟩⟩
    · omega
    · exact absurd h1 (h y)
    · have e := (drvE_pf y y' [] [] (by rw [List.append_nil, List.append_nil, ← h1, ← h1'])).1
      rw [e]
theorem told_one {s : ByteArray} {d d' : Dv} {e e' : Int} (hs : s.size ≤ 1048576) (h : Told s d e) (h' : Told s d' e') : d = d' ∧ e = e' := by
  rcases h with ⟨rfl, h1, h2⟩ | ⟨h1, rfl⟩
  · rcases h' with ⟨rfl, k1, k2⟩ | ⟨k1, rfl⟩
    · exact ⟨(drvE_pf d d' [] [] (by rw [List.append_nil, List.append_nil, ← h1, ← k1])).1, rfl⟩
    · exact (fails_no hs k1 h1 h2).elim
  · rcases h' with ⟨rfl, k1, k2⟩ | ⟨k1, rfl⟩
    · exact (fails_no hs h1 k1 k2).elim
    · exact ⟨rfl, fails_one hs h1 k1⟩
theorem drvAt_seven {w : World} {d : Dv} {cs : Array Value} (h : DrvAt w d cs) : cs.size = 7 ∧ cs.all (·.oneCell') = true := by
  obtain ⟨vo, vi, vs, va, ve, rfl, ho, hi, hs, ha, he⟩ := h.ex
  obtain ⟨a0, c0, rfl, _⟩ := ho.shape
  obtain ⟨ns, _, hi', _⟩ := hi
  obtain ⟨a1, c1, rfl, _⟩ := hi'.shape
  obtain ⟨a2, c2, rfl, _⟩ := hs.shape
  obtain ⟨a5, c5, rfl, _⟩ := ha.shape
  obtain ⟨a6, c6, rfl, _⟩ := he.shape
  exact ⟨rfl, drv_one _ _ _ _ _ _ _ _ _ _ _ _ _ _ _ _ _⟩
theorem ParsePost.told {s : ByteArray} {w w' : World} {r : Ending} (h : ParsePost s w r w') : Below w.heap.size w w' ∧ ∃ cs d e, r = .returned (.tuple #[.agg cs, .int .i64 e]) ∧ DrvAt w' d cs ∧ Told s d e := by
  obtain ⟨hb, ⟨cs, d, rfl, hd, _, h2, h3⟩ | ⟨e, _, hf, rfl⟩⟩ := h
  · exact ⟨hb, cs, d, 0, rfl, hd, .inl ⟨rfl, h2, h3⟩⟩
  · exact ⟨hb, zDrv, dv0, e, rfl, drvAt_zero w', .inr ⟨hf, rfl⟩⟩
theorem rnames_ok (w : World) : Calls Tryd.prog 14 #[] w fun e w' => e = .returned (.bool true) ∧ w' = w := by
  go_enter Tryd.func14, Tryd.ntmps14
  go_wp2
  go_ret
  exact ⟨rfl, rfl⟩
set_option maxRecDepth 20000 in
set_option maxHeartbeats 8000000 in
theorem law_parses (s : ByteArray) (w : World) (hs : s.size ≤ 1048576) (hT : ETab w) (hG : GH w) : Calls Tryd.prog 4 #[.string s] w fun e w' => e = .returned (.bool true) ∧ Below w.heap.size w w' := by
  have HC := parse_ok s w hT hG
  have HT : Hid (ETab w) := hT
  clear hT hG
  go_enter Tryd.func4, Tryd.ntmps4
  go_wp2_with fail
  refine Calls.mono HC ?_
  intro r w1 h1
  obtain ⟨hb1, cs, d, e, rfl, hd1, ht1⟩ := h1.told
  obtain ⟨hcz, hone⟩ := drvAt_seven hd1
  have hci : (Tryd.prog.info? 27).map (·.size) = some cs.size := by rw [hcz]; exact info_drv
  have HC2 := rparse_small s (w1.alloc (.cells cs 27)) hs
  have HD1 : Hid (DrvAt (w1.alloc (.cells cs 27)) d cs) := hd1.keep (below_new (Below.refl _ _) _)
  have HR1 : Hid (Row (w1.alloc (.cells cs 27)) w1.heap.size cs 27) := Row.new w1 _ _
  have HB1 : Hid (Below w.heap.size w (w1.alloc (.cells cs 27))) := below_new hb1 _
  have HT1 : Hid (Told s d e) := ht1
  clear h1 hb1 hd1 ht1 HC
  go_wp2_with (refine store_new rfl 27 _ _ rfl w1 zDrv cs 27 rfl w1.heap.size rfl rfl rfl hci (by rw [hcz]; rfl) hone ?_)
  refine Calls.mono HC2 ?_
  intro r w2 h2
  obtain ⟨hb2, cs2, d2, e2, rfl, hd2, ht2⟩ := h2.told
  obtain ⟨hd, he⟩ := told_one hs HT1.out ht2
  subst hd
  subst he
  obtain ⟨hcz2, hone2⟩ := drvAt_seven hd2
  have hci2 : (Tryd.prog.info? 27).map (·.size) = some cs2.size := by rw [hcz2]; exact info_drv
  have hbA : Below w2.heap.size w2 (w2.alloc (.cells cs2 27)) := below_new (Below.refl _ _) _
  have hR1 : Row (w2.alloc (.cells cs2 27)) w1.heap.size cs 27 := (HR1.out.below hb2 HR1.out.lt).alloc _
  have hR2 : Row (w2.alloc (.cells cs2 27)) w2.heap.size cs2 27 := Row.new w2 _ _
  have HB2 : Hid (Below w.heap.size w (w2.alloc (.cells cs2 27))) := below_next (below_next HB1.out hb2) hbA
  have HSm := same_ok d cs cs2 (w2.alloc (.cells cs2 27)) ((HD1.out.keep hb2).keep hbA) (hd2.keep hbA)
  clear h2 hb2 hd2 ht2 HC2 HT1 HD1 HR1 hbA
  go_wp2_with (first
    | refine store_new rfl 27 _ _ rfl w2 zDrv cs2 27 rfl w2.heap.size rfl rfl rfl hci2 (by rw [hcz2]; rfl) hone2 ?_
    | refine wpList_load_row rfl 27 _ rfl w1.heap.size rfl 27 cs (0, 0) _ hR1 Tryd.underlying27 rfl hci ?_
    | refine wpList_load_row rfl 27 _ rfl w2.heap.size rfl 27 cs2 (0, 0) _ hR2 Tryd.underlying27 rfl hci2 ?_)
  refine Calls.mono HSm ?_
  rintro r w3 ⟨rfl, hb3⟩
  have HB3 : Hid (Below w.heap.size w w3) := below_next HB2.out hb3
  have HQ := quote_ok s w3 (HT.out.keep HB3.out) (by omega)
  obtain ⟨q, hq⟩ : ∃ q, q = quoteS s := ⟨_, rfl⟩
  have HQ' : Calls Tryd.prog 17 #[.string s] w3 fun e w' => e = .returned (.string q) ∧ Below w3.heap.size w3 w' := by rw [hq]; exact HQ
  clear hb3 HSm hR1 hR2 HQ
  go_wp2_with fail
  refine Calls.mono HQ' ?_
  rintro r w4 ⟨rfl, hb4⟩
  have HB4 : Hid (Below w.heap.size w w4) := below_next HB3.out hb4
  have HRQ := rquote_ok s w4 (by omega)
  rw [← hq] at HRQ
  clear hb4 HQ' hq
  go_wp2_with fail
  refine Calls.mono HRQ ?_
  rintro r w5 ⟨rfl, hb5⟩
  have HB5 : Hid (Below w.heap.size w w5) := below_next HB4.out hb5
  clear hb5 HRQ
  go_wp2_with (go_at_call 14; refine (rnames_ok _).mono ?_; rintro e w6 ⟨rfl, rfl⟩)
  go_ret
  exact ⟨rfl, HB5.out⟩
end Go.Proofs.YtmpgfepkdhjibaaDoor
