/- My own work: the walk of the document's Parse. -/
import Derived.Test.YtmpgfepkdhjibaaDoorRRd
import Derived.Test.YtmpgfepkdhjibaaDoorRd8l
import Derived.Test.YtmpgfepkdhjibaaDoorRefR
namespace Go.Proofs.YtmpgfepkdhjibaaDoor
open Go.RowKit

theorem fail_bad {s : ByteArray} {dd : Dv} {p : Nat} (hs : s.size ≤ 1048576) (h : Oc drvE s 0 false dd p true) : Fails s 10 :=
  .inr ⟨hs, .inl ⟨fun y e => by
    rcases h.2 rfl with ⟨e1, _⟩ | ⟨_, e2⟩
    · cases e1
    · exact e2 y [] (by rw [List.drop_zero, List.append_nil]; exact e), rfl⟩⟩
theorem fail_rest {s : ByteArray} {dd : Dv} {p : Nat} (hs : s.size ≤ 1048576) (hlt : p < s.size) (h : Oc drvE s 0 false dd p false) : Fails s 10 :=
  .inr ⟨hs, .inl ⟨fun y e => by
    rcases h.2 rfl with ⟨_, e2⟩ | ⟨e1, _⟩
    · rw [List.drop_zero] at e2
      have e3 := (drvE_pf y dd [] ((bl s).drop p) (by rw [List.append_nil, ← e]; exact e2)).2
      have e4 := congrArg List.length e3
      rw [List.length_drop, bl_len, List.length_nil] at e4
      omega
    · exact absurd e1 (by decide), rfl⟩⟩
theorem read_whole {s : ByteArray} {dd : Dv} {p : Nat} (hp : s.size ≤ p) (h : Oc drvE s 0 false dd p false) : bl s = drvE dd := by
  rcases h.2 rfl with ⟨_, e2⟩ | ⟨e1, _⟩
  · rw [List.drop_zero, List.drop_of_length_le (by rw [bl_len]; exact hp), List.append_nil] at e2
    exact e2
  · exact absurd e1 (by decide)
theorem resultsRParse : Tryd.f16.results = #[.cell 2 27, .tmp 3] := by kernel_rfl
set_option maxRecDepth 20000 in
set_option maxHeartbeats 32000000 in
theorem rparse_small (s : ByteArray) (w : World) (hs : s.size ≤ 1048576) : Calls Tryd.prog 16 #[.string s] w fun r w' => ParsePost s w r w' := by
  obtain ⟨RP, hRP⟩ : ∃ RP, RP = ParsePost s w := ⟨_, rfl⟩
  have HRP : Hid (∀ r w', ParsePost s w r w' → RP r w') := fun r w' h => by rw [hRP]; exact h
  rw [← hRP]
  have HS : Hid (s.size ≤ 1048576) := hs
  obtain ⟨w1, hw1⟩ : ∃ x, x = ((w.alloc (.cells zDrv 27)).alloc (.cells #[.string s, .int .i64 0, .bool false] 69)).alloc (.cells zDrv 27) := ⟨_, rfl⟩
  have HP : Hid (Ps w w1 s (⟨[], [], [], ⟨#[]⟩, ⟨#[]⟩, [], []⟩ : Dv) 0 false) := by
    rw [hw1]
    have r1 : Row (w.alloc (.cells zDrv 27)) w.heap.size zDrv 27 := Row.new w _ _
    have r2 := Row.new (w.alloc (.cells zDrv 27)) #[.string s, .int .i64 0, .bool false] 69
    have r3 := Row.new ((w.alloc (.cells zDrv 27)).alloc (.cells #[.string s, .int .i64 0, .bool false] 69)) zDrv 27
    rw [World.size_alloc] at r2
    rw [World.size_alloc, World.size_alloc] at r3
    exact ⟨below_new (below_new (below_new (Below.refl _ _) _) _) _, (r1.alloc _).alloc _, ⟨r2.alloc _, Nat.zero_le _, hs⟩, _, _, _, _, _, r3, OutL.nil _ _ _, InL.nil _ _ _, StrL.nil _ _ _, StrL.nil _ _ _, PairL.nil _ _ _⟩
  have HW1 : Hid _ := hw1
  clear hw1 hRP
  go_enter Tryd.func16, Tryd.ntmps16
  have HC := take_ok (w.heap.size + 1) s 0 false ⟨#[68, 101, 114, 105, 118, 101, 40, 91]⟩ w1 HP.out.rd
  go_wp2_with (refine store_new rfl 27 _ _ rfl ((w.alloc (.cells zDrv 27)).alloc (.cells #[.string s, .int .i64 0, .bool false] 69)) _ zDrv 27 rfl (w.heap.size + 2) (by simp) rfl rfl info_drv rfl (drv_one _ _ _ _ _ _ _ _ _ _ _ _ _ _ _ _ _) ?_)
  rw [← HW1.out]
  refine Calls.mono HC ?_
  rintro e wa1 ⟨⟨va1, rfl⟩, hg1, pa1, ba1, hr1, ho1⟩
  have HPn : Hid (Ps w wa1 s (⟨[], [], [], ⟨#[]⟩, ⟨#[]⟩, [], []⟩ : Dv) pa1 ba1) := HP.out.gr hg1 hr1
  obtain ⟨pm, bm, hs1, hs2⟩ := Oc.split (X := [68, 101, 114, 105, 118, 101, 40]) (Y := [91]) ho1
  have HOm : Hid (Oc (conE [68, 101, 114, 105, 118, 101, 40]) s 0 false () pm bm) := hs1
  have HL1 : Hid (Lc outE s pm bm [] pa1 ba1) := Lc.start hs2
  clear HC hg1 hr1 ho1 hs1 hs2 HP
  have HP := HPn
  clear HPn
  go_wp2
  go_loopw [6] (fun _ wx => ∃ (l : List (ByteArray × ByteArray × ByteArray)) (p2 : Nat) (b2 : Bool), Hid (Ps w wx s (⟨l, [], [], ⟨#[]⟩, ⟨#[]⟩, [], []⟩ : Dv) p2 b2) ∧ Hid (Lc outE s pm bm l p2 b2) ∧ Hid ((b2 = false → l.length ≤ p2) ∧ l.length ≤ s.size + 1)) (fun _ wx => leftR s (w.heap.size + 1) wx)
  case atStart => exact ⟨[], pa1, ba1, HP, HL1, fun _ => Nat.zero_le _, Nat.zero_le _⟩
  case round =>
    clear HP HL1
    obtain ⟨l, p2, b2, HPr, HL, HLl⟩ := hrel
    obtain ⟨x0, x1, x2, x5, x6, r, l0, l1, l2, l5, l6⟩ := HPr.out.dr
    obtain ⟨a, c, rfl⟩ := l0.shape
    have c0 := (r.cell 0).trans (rfl : _ = some (Value.slice a l.length c))
    have HLen : Hid (l.length ≤ 1048577) := Nat.le_trans HLl.out.2 (Nat.add_le_add_right HPr.out.rd.small 1)
    have HMo := more_ok (w.heap.size + 1) s p2 b2 l.length wr HPr.out.rd (Nat.le_trans HLen.out (by decide))
    clear r l0 l1 l2 l5 l6
    go_wp2_with fail
    refine Calls.mono HMo ?_
    rintro rr w2 ⟨hmo, hg2⟩
    have hnx := more_list outE_pf out_head HL.out HPr.out.rd.le hmo
    have HPx : Hid (∀ p' b', Rr w2 (w.heap.size + 1) s p' b' → Ps w w2 s (⟨l, [], [], ⟨#[]⟩, ⟨#[]⟩, [], []⟩ : Dv) p' b') := fun p' b' h => HPr.out.gr hg2 h
    clear HMo hmo hg2 HL c0
    rcases hnx with ⟨rfl, p3, b3, hr3, ho3⟩ | ⟨rfl, rfl, p1, hr1, hle1, hnext⟩
    · obtain ⟨wb2, pb2, bb2, lb2, e1, e2, e3, e4⟩ : ∃ a1 a2 a3 a4, a1 = w2 ∧ a2 = p3 ∧ a3 = b3 ∧ a4 = l := ⟨_, _, _, _, rfl, rfl, rfl, rfl⟩
      subst e1 e2 e3 e4
      have HP : Hid (Ps w wb2 s (⟨lb2, [], [], ⟨#[]⟩, ⟨#[]⟩, [], []⟩ : Dv) pb2 bb2) := HPx.out _ _ hr3
      have HO : Hid (Oc (seqE (conE [68, 101, 114, 105, 118, 101, 40]) (lstE outE)) s 0 false ((), lb2) pb2 bb2) := HOm.out.seq (con_pf _) ho3
      clear hr3 ho3 HPx HOm HPr HLl HLen
      have HC := take_ok (w.heap.size + 1) s pb2 bb2 ⟨#[44, 91]⟩ wb2 HP.out.rd
      go_wp2_with fail
      refine Calls.mono HC ?_
      rintro e wa3 ⟨⟨va3, rfl⟩, hg1, pa3, ba3, hr1, ho1⟩
      have HPn : Hid (Ps w wa3 s (⟨lb2, [], [], ⟨#[]⟩, ⟨#[]⟩, [], []⟩ : Dv) pa3 ba3) := HP.out.gr hg1 hr1
      obtain ⟨pm, bm, hs1, hs2⟩ := Oc.split (X := [44]) (Y := [91]) ho1
      have HOm : Hid (Oc (seqE (seqE (conE [68, 101, 114, 105, 118, 101, 40]) (lstE outE)) (conE [44])) s 0 false (((), lb2), ()) pm bm) := HO.out.seq (seq_pf (con_pf _) (lst_pf outE_pf out_head)) hs1
      have HL1 : Hid (Lc inE s pm bm [] pa3 ba3) := Lc.start hs2
      clear HC hg1 hr1 ho1 hs1 hs2 HP HO
      have HP := HPn
      clear HPn
      go_wp2
      go_loopw [7] (fun _ wx => ∃ (l : List (ByteArray × List ByteArray)) (p2 : Nat) (b2 : Bool), Hid (Ps w wx s (⟨lb2, l, [], ⟨#[]⟩, ⟨#[]⟩, [], []⟩ : Dv) p2 b2) ∧ Hid (Lc inE s pm bm l p2 b2) ∧ Hid ((b2 = false → l.length ≤ p2) ∧ l.length ≤ s.size + 1)) (fun _ wx => leftR s (w.heap.size + 1) wx)
      case atStart => exact ⟨[], pa3, ba3, HP, HL1, fun _ => Nat.zero_le _, Nat.zero_le _⟩
      case round =>
        clear HP HL1
        obtain ⟨l, p2, b2, HPr, HL, HLl⟩ := hrel
        obtain ⟨x0, x1, x2, x5, x6, r, l0, l1, l2, l5, l6⟩ := HPr.out.dr
        obtain ⟨a, c, rfl⟩ := l1.shape
        have c0 := (r.cell 1).trans (rfl : _ = some (Value.slice a l.length c))
        have HLen : Hid (l.length ≤ 1048577) := Nat.le_trans HLl.out.2 (Nat.add_le_add_right HPr.out.rd.small 1)
        have HMo := more_ok (w.heap.size + 1) s p2 b2 l.length wr HPr.out.rd (Nat.le_trans HLen.out (by decide))
        clear r l0 l1 l2 l5 l6
        go_wp2_with fail
        refine Calls.mono HMo ?_
        rintro rr w2 ⟨hmo, hg2⟩
        have hnx := more_list inE_pf in_head HL.out HPr.out.rd.le hmo
        have HPx : Hid (∀ p' b', Rr w2 (w.heap.size + 1) s p' b' → Ps w w2 s (⟨lb2, l, [], ⟨#[]⟩, ⟨#[]⟩, [], []⟩ : Dv) p' b') := fun p' b' h => HPr.out.gr hg2 h
        clear HMo hmo hg2 HL c0
        rcases hnx with ⟨rfl, p3, b3, hr3, ho3⟩ | ⟨rfl, rfl, p1, hr1, hle1, hnext⟩
        · obtain ⟨wb4, pb4, bb4, lb4, e1, e2, e3, e4⟩ : ∃ a1 a2 a3 a4, a1 = w2 ∧ a2 = p3 ∧ a3 = b3 ∧ a4 = l := ⟨_, _, _, _, rfl, rfl, rfl, rfl⟩
          subst e1 e2 e3 e4
          have HP : Hid (Ps w wb4 s (⟨lb2, lb4, [], ⟨#[]⟩, ⟨#[]⟩, [], []⟩ : Dv) pb4 bb4) := HPx.out _ _ hr3
          have HO : Hid (Oc (seqE (seqE (seqE (conE [68, 101, 114, 105, 118, 101, 40]) (lstE outE)) (conE [44])) (lstE inE)) s 0 false ((((), lb2), ()), lb4) pb4 bb4) := HOm.out.seq (seq_pf (seq_pf (con_pf _) (lst_pf outE_pf out_head)) (con_pf _)) ho3
          clear hr3 ho3 HPx HOm HPr HLl HLen
          have HC := take_ok (w.heap.size + 1) s pb4 bb4 ⟨#[44]⟩ wb4 HP.out.rd
          go_wp2_with fail
          refine Calls.mono HC ?_
          rintro e wa5 ⟨⟨va5, rfl⟩, hg1, pa5, ba5, hr1, ho1⟩
          have HPn : Hid (Ps w wa5 s (⟨lb2, lb4, [], ⟨#[]⟩, ⟨#[]⟩, [], []⟩ : Dv) pa5 ba5) := HP.out.gr hg1 hr1
          have HOn : Hid (Oc (seqE (seqE (seqE (seqE (conE [68, 101, 114, 105, 118, 101, 40]) (lstE outE)) (conE [44])) (lstE inE)) (conE [44])) s 0 false (((((), lb2), ()), lb4), ()) pa5 ba5) := HO.out.seq (seq_pf (seq_pf (seq_pf (con_pf _) (lst_pf outE_pf out_head)) (con_pf _)) (lst_pf inE_pf in_head)) ho1
          clear HC hg1 hr1 ho1 HP HO
          have HP := HPn
          have HO := HOn
          clear HPn HOn
          have HC := textsR_ok (w.heap.size + 1) s pa5 ba5 wa5 HP.out.rd
          go_wp2_with fail
          refine Calls.mono HC ?_
          rintro e wa6 ⟨hg1, va6, xa6, pa6, ba6, rfl, hv1, hr1, ho1⟩
          obtain ⟨fa6, fc6, rfl⟩ := hv1.shape
          have HQ : Hid (Ps w wa6 s (⟨lb2, lb4, [], ⟨#[]⟩, ⟨#[]⟩, [], []⟩ : Dv) pa6 ba6) := HP.out.gr hg1 hr1
          obtain ⟨y0, y1, y2, y5, y6, ry, _⟩ := HQ.out.dr
          have cc := ry.cell 2
          have zz := ry.frozen 2
          simp only [List.getElem?_toArray, List.getElem?_cons_zero, List.getElem?_cons_succ] at cc
          have HPn : Hid (Ps w (wa6.setCell ⟨w.heap.size + 2, 2, none⟩ (.slice fa6 xa6.length fc6)) s (⟨lb2, lb4, xa6, ⟨#[]⟩, ⟨#[]⟩, [], []⟩ : Dv) pa6 ba6) := HQ.out.setSrcs hv1
          have HOn : Hid (Oc (seqE (seqE (seqE (seqE (seqE (conE [68, 101, 114, 105, 118, 101, 40]) (lstE outE)) (conE [44])) (lstE inE)) (conE [44])) (lstE strE)) s 0 false ((((((), lb2), ()), lb4), ()), xa6) pa6 ba6) := HO.out.seq (seq_pf (seq_pf (seq_pf (seq_pf (con_pf _) (lst_pf outE_pf out_head)) (con_pf _)) (lst_pf inE_pf in_head)) (con_pf _)) ho1
          clear HC hg1 hr1 ho1 HP HO HQ ry hv1
          have HP := HPn
          have HO := HOn
          clear HPn HOn
          have HC := take_ok (w.heap.size + 1) s pa6 ba6 ⟨#[44]⟩ (wa6.setCell ⟨w.heap.size + 2, 2, none⟩ (.slice fa6 xa6.length fc6)) HP.out.rd
          go_wp2_with fail
          refine Calls.mono HC ?_
          rintro e wa7 ⟨⟨va7, rfl⟩, hg1, pa7, ba7, hr1, ho1⟩
          have HPn : Hid (Ps w wa7 s (⟨lb2, lb4, xa6, ⟨#[]⟩, ⟨#[]⟩, [], []⟩ : Dv) pa7 ba7) := HP.out.gr hg1 hr1
          have HOn : Hid (Oc (seqE (seqE (seqE (seqE (seqE (seqE (conE [68, 101, 114, 105, 118, 101, 40]) (lstE outE)) (conE [44])) (lstE inE)) (conE [44])) (lstE strE)) (conE [44])) s 0 false (((((((), lb2), ()), lb4), ()), xa6), ()) pa7 ba7) := HO.out.seq (seq_pf (seq_pf (seq_pf (seq_pf (seq_pf (con_pf _) (lst_pf outE_pf out_head)) (con_pf _)) (lst_pf inE_pf in_head)) (con_pf _)) (lst_pf strE_pf str_head)) ho1
          clear HC hg1 hr1 ho1 HP HO
          have HP := HPn
          have HO := HOn
          clear HPn HOn
          have HC := quotedR_ok (w.heap.size + 1) s pa7 ba7 wa7 HP.out.rd
          go_wp2_with fail
          refine Calls.mono HC ?_
          rintro e wa8 ⟨hg1, va8, xa8, pa8, ba8, rfl, rfl, hr1, ho1⟩
          have HQ : Hid (Ps w wa8 s (⟨lb2, lb4, xa6, ⟨#[]⟩, ⟨#[]⟩, [], []⟩ : Dv) pa8 ba8) := HP.out.gr hg1 hr1
          obtain ⟨y0, y1, y2, y5, y6, ry, _⟩ := HQ.out.dr
          have cc := ry.cell 3
          have zz := ry.frozen 3
          simp only [List.getElem?_toArray, List.getElem?_cons_zero, List.getElem?_cons_succ] at cc
          have HPn : Hid (Ps w (wa8.setCell ⟨w.heap.size + 2, 3, none⟩ (.string xa8)) s (⟨lb2, lb4, xa6, xa8, ⟨#[]⟩, [], []⟩ : Dv) pa8 ba8) := HQ.out.setSys xa8
          have HOn : Hid (Oc (seqE (seqE (seqE (seqE (seqE (seqE (seqE (conE [68, 101, 114, 105, 118, 101, 40]) (lstE outE)) (conE [44])) (lstE inE)) (conE [44])) (lstE strE)) (conE [44])) strE) s 0 false ((((((((), lb2), ()), lb4), ()), xa6), ()), xa8) pa8 ba8) := HO.out.seq (seq_pf (seq_pf (seq_pf (seq_pf (seq_pf (seq_pf (con_pf _) (lst_pf outE_pf out_head)) (con_pf _)) (lst_pf inE_pf in_head)) (con_pf _)) (lst_pf strE_pf str_head)) (con_pf _)) ho1
          clear HC hg1 hr1 ho1 HP HO HQ ry
          have HP := HPn
          have HO := HOn
          clear HPn HOn
          have HC := take_ok (w.heap.size + 1) s pa8 ba8 ⟨#[44]⟩ (wa8.setCell ⟨w.heap.size + 2, 3, none⟩ (.string xa8)) HP.out.rd
          go_wp2_with fail
          refine Calls.mono HC ?_
          rintro e wa9 ⟨⟨va9, rfl⟩, hg1, pa9, ba9, hr1, ho1⟩
          have HPn : Hid (Ps w wa9 s (⟨lb2, lb4, xa6, xa8, ⟨#[]⟩, [], []⟩ : Dv) pa9 ba9) := HP.out.gr hg1 hr1
          have HOn : Hid (Oc (seqE (seqE (seqE (seqE (seqE (seqE (seqE (seqE (conE [68, 101, 114, 105, 118, 101, 40]) (lstE outE)) (conE [44])) (lstE inE)) (conE [44])) (lstE strE)) (conE [44])) strE) (conE [44])) s 0 false (((((((((), lb2), ()), lb4), ()), xa6), ()), xa8), ()) pa9 ba9) := HO.out.seq (seq_pf (seq_pf (seq_pf (seq_pf (seq_pf (seq_pf (seq_pf (con_pf _) (lst_pf outE_pf out_head)) (con_pf _)) (lst_pf inE_pf in_head)) (con_pf _)) (lst_pf strE_pf str_head)) (con_pf _)) strE_pf) ho1
          clear HC hg1 hr1 ho1 HP HO
          have HP := HPn
          have HO := HOn
          clear HPn HOn
          have HC := quotedR_ok (w.heap.size + 1) s pa9 ba9 wa9 HP.out.rd
          go_wp2_with fail
          refine Calls.mono HC ?_
          rintro e wa10 ⟨hg1, va10, xa10, pa10, ba10, rfl, rfl, hr1, ho1⟩
          have HQ : Hid (Ps w wa10 s (⟨lb2, lb4, xa6, xa8, ⟨#[]⟩, [], []⟩ : Dv) pa10 ba10) := HP.out.gr hg1 hr1
          obtain ⟨y0, y1, y2, y5, y6, ry, _⟩ := HQ.out.dr
          have cc := ry.cell 4
          have zz := ry.frozen 4
          simp only [List.getElem?_toArray, List.getElem?_cons_zero, List.getElem?_cons_succ] at cc
          have HPn : Hid (Ps w (wa10.setCell ⟨w.heap.size + 2, 4, none⟩ (.string xa10)) s (⟨lb2, lb4, xa6, xa8, xa10, [], []⟩ : Dv) pa10 ba10) := HQ.out.setBld xa10
          have HOn : Hid (Oc (seqE (seqE (seqE (seqE (seqE (seqE (seqE (seqE (seqE (conE [68, 101, 114, 105, 118, 101, 40]) (lstE outE)) (conE [44])) (lstE inE)) (conE [44])) (lstE strE)) (conE [44])) strE) (conE [44])) strE) s 0 false ((((((((((), lb2), ()), lb4), ()), xa6), ()), xa8), ()), xa10) pa10 ba10) := HO.out.seq (seq_pf (seq_pf (seq_pf (seq_pf (seq_pf (seq_pf (seq_pf (seq_pf (con_pf _) (lst_pf outE_pf out_head)) (con_pf _)) (lst_pf inE_pf in_head)) (con_pf _)) (lst_pf strE_pf str_head)) (con_pf _)) strE_pf) (con_pf _)) ho1
          clear HC hg1 hr1 ho1 HP HO HQ ry
          have HP := HPn
          have HO := HOn
          clear HPn HOn
          have HC := take_ok (w.heap.size + 1) s pa10 ba10 ⟨#[44]⟩ (wa10.setCell ⟨w.heap.size + 2, 4, none⟩ (.string xa10)) HP.out.rd
          go_wp2_with fail
          refine Calls.mono HC ?_
          rintro e wa11 ⟨⟨va11, rfl⟩, hg1, pa11, ba11, hr1, ho1⟩
          have HPn : Hid (Ps w wa11 s (⟨lb2, lb4, xa6, xa8, xa10, [], []⟩ : Dv) pa11 ba11) := HP.out.gr hg1 hr1
          have HOn : Hid (Oc (seqE (seqE (seqE (seqE (seqE (seqE (seqE (seqE (seqE (seqE (conE [68, 101, 114, 105, 118, 101, 40]) (lstE outE)) (conE [44])) (lstE inE)) (conE [44])) (lstE strE)) (conE [44])) strE) (conE [44])) strE) (conE [44])) s 0 false (((((((((((), lb2), ()), lb4), ()), xa6), ()), xa8), ()), xa10), ()) pa11 ba11) := HO.out.seq (seq_pf (seq_pf (seq_pf (seq_pf (seq_pf (seq_pf (seq_pf (seq_pf (seq_pf (con_pf _) (lst_pf outE_pf out_head)) (con_pf _)) (lst_pf inE_pf in_head)) (con_pf _)) (lst_pf strE_pf str_head)) (con_pf _)) strE_pf) (con_pf _)) strE_pf) ho1
          clear HC hg1 hr1 ho1 HP HO
          have HP := HPn
          have HO := HOn
          clear HPn HOn
          have HC := textsR_ok (w.heap.size + 1) s pa11 ba11 wa11 HP.out.rd
          go_wp2_with fail
          refine Calls.mono HC ?_
          rintro e wa12 ⟨hg1, va12, xa12, pa12, ba12, rfl, hv1, hr1, ho1⟩
          obtain ⟨fa12, fc12, rfl⟩ := hv1.shape
          have HQ : Hid (Ps w wa12 s (⟨lb2, lb4, xa6, xa8, xa10, [], []⟩ : Dv) pa12 ba12) := HP.out.gr hg1 hr1
          obtain ⟨y0, y1, y2, y5, y6, ry, _⟩ := HQ.out.dr
          have cc := ry.cell 5
          have zz := ry.frozen 5
          simp only [List.getElem?_toArray, List.getElem?_cons_zero, List.getElem?_cons_succ] at cc
          have HPn : Hid (Ps w (wa12.setCell ⟨w.heap.size + 2, 5, none⟩ (.slice fa12 xa12.length fc12)) s (⟨lb2, lb4, xa6, xa8, xa10, xa12, []⟩ : Dv) pa12 ba12) := HQ.out.setArgs hv1
          have HOn : Hid (Oc (seqE (seqE (seqE (seqE (seqE (seqE (seqE (seqE (seqE (seqE (seqE (conE [68, 101, 114, 105, 118, 101, 40]) (lstE outE)) (conE [44])) (lstE inE)) (conE [44])) (lstE strE)) (conE [44])) strE) (conE [44])) strE) (conE [44])) (lstE strE)) s 0 false ((((((((((((), lb2), ()), lb4), ()), xa6), ()), xa8), ()), xa10), ()), xa12) pa12 ba12) := HO.out.seq (seq_pf (seq_pf (seq_pf (seq_pf (seq_pf (seq_pf (seq_pf (seq_pf (seq_pf (seq_pf (con_pf _) (lst_pf outE_pf out_head)) (con_pf _)) (lst_pf inE_pf in_head)) (con_pf _)) (lst_pf strE_pf str_head)) (con_pf _)) strE_pf) (con_pf _)) strE_pf) (con_pf _)) ho1
          clear HC hg1 hr1 ho1 HP HO HQ ry hv1
          have HP := HPn
          have HO := HOn
          clear HPn HOn
          have HC := take_ok (w.heap.size + 1) s pa12 ba12 ⟨#[44, 91]⟩ (wa12.setCell ⟨w.heap.size + 2, 5, none⟩ (.slice fa12 xa12.length fc12)) HP.out.rd
          go_wp2_with fail
          refine Calls.mono HC ?_
          rintro e wa13 ⟨⟨va13, rfl⟩, hg1, pa13, ba13, hr1, ho1⟩
          have HPn : Hid (Ps w wa13 s (⟨lb2, lb4, xa6, xa8, xa10, xa12, []⟩ : Dv) pa13 ba13) := HP.out.gr hg1 hr1
          obtain ⟨pm, bm, hs1, hs2⟩ := Oc.split (X := [44]) (Y := [91]) ho1
          have HOm : Hid (Oc (seqE (seqE (seqE (seqE (seqE (seqE (seqE (seqE (seqE (seqE (seqE (seqE (conE [68, 101, 114, 105, 118, 101, 40]) (lstE outE)) (conE [44])) (lstE inE)) (conE [44])) (lstE strE)) (conE [44])) strE) (conE [44])) strE) (conE [44])) (lstE strE)) (conE [44])) s 0 false (((((((((((((), lb2), ()), lb4), ()), xa6), ()), xa8), ()), xa10), ()), xa12), ()) pm bm) := HO.out.seq (seq_pf (seq_pf (seq_pf (seq_pf (seq_pf (seq_pf (seq_pf (seq_pf (seq_pf (seq_pf (seq_pf (con_pf _) (lst_pf outE_pf out_head)) (con_pf _)) (lst_pf inE_pf in_head)) (con_pf _)) (lst_pf strE_pf str_head)) (con_pf _)) strE_pf) (con_pf _)) strE_pf) (con_pf _)) (lst_pf strE_pf str_head)) hs1
          have HL1 : Hid (Lc pairE s pm bm [] pa13 ba13) := Lc.start hs2
          clear HC hg1 hr1 ho1 hs1 hs2 HP HO
          have HP := HPn
          clear HPn
          go_wp2
          go_loopw [8] (fun _ wx => ∃ (l : List (ByteArray × ByteArray)) (p2 : Nat) (b2 : Bool), Hid (Ps w wx s (⟨lb2, lb4, xa6, xa8, xa10, xa12, l⟩ : Dv) p2 b2) ∧ Hid (Lc pairE s pm bm l p2 b2) ∧ Hid ((b2 = false → l.length ≤ p2) ∧ l.length ≤ s.size + 1)) (fun _ wx => leftR s (w.heap.size + 1) wx)
          case atStart => exact ⟨[], pa13, ba13, HP, HL1, fun _ => Nat.zero_le _, Nat.zero_le _⟩
          case round =>
            clear HP HL1
            obtain ⟨l, p2, b2, HPr, HL, HLl⟩ := hrel
            obtain ⟨x0, x1, x2, x5, x6, r, l0, l1, l2, l5, l6⟩ := HPr.out.dr
            obtain ⟨a, c, rfl⟩ := l6.shape
            have c0 := (r.cell 6).trans (rfl : _ = some (Value.slice a l.length c))
            have HLen : Hid (l.length ≤ 1048577) := Nat.le_trans HLl.out.2 (Nat.add_le_add_right HPr.out.rd.small 1)
            have HMo := more_ok (w.heap.size + 1) s p2 b2 l.length wr HPr.out.rd (Nat.le_trans HLen.out (by decide))
            clear r l0 l1 l2 l5 l6
            go_wp2_with fail
            refine Calls.mono HMo ?_
            rintro rr w2 ⟨hmo, hg2⟩
            have hnx := more_list pairE_pf pair_head HL.out HPr.out.rd.le hmo
            have HPx : Hid (∀ p' b', Rr w2 (w.heap.size + 1) s p' b' → Ps w w2 s (⟨lb2, lb4, xa6, xa8, xa10, xa12, l⟩ : Dv) p' b') := fun p' b' h => HPr.out.gr hg2 h
            clear HMo hmo hg2 HL c0
            rcases hnx with ⟨rfl, p3, b3, hr3, ho3⟩ | ⟨rfl, rfl, p1, hr1, hle1, hnext⟩
            · obtain ⟨wb14, pb14, bb14, lb14, e1, e2, e3, e4⟩ : ∃ a1 a2 a3 a4, a1 = w2 ∧ a2 = p3 ∧ a3 = b3 ∧ a4 = l := ⟨_, _, _, _, rfl, rfl, rfl, rfl⟩
              subst e1 e2 e3 e4
              have HP : Hid (Ps w wb14 s (⟨lb2, lb4, xa6, xa8, xa10, xa12, lb14⟩ : Dv) pb14 bb14) := HPx.out _ _ hr3
              have HO : Hid (Oc (seqE (seqE (seqE (seqE (seqE (seqE (seqE (seqE (seqE (seqE (seqE (seqE (seqE (conE [68, 101, 114, 105, 118, 101, 40]) (lstE outE)) (conE [44])) (lstE inE)) (conE [44])) (lstE strE)) (conE [44])) strE) (conE [44])) strE) (conE [44])) (lstE strE)) (conE [44])) (lstE pairE)) s 0 false ((((((((((((((), lb2), ()), lb4), ()), xa6), ()), xa8), ()), xa10), ()), xa12), ()), lb14) pb14 bb14) := HOm.out.seq (seq_pf (seq_pf (seq_pf (seq_pf (seq_pf (seq_pf (seq_pf (seq_pf (seq_pf (seq_pf (seq_pf (seq_pf (con_pf _) (lst_pf outE_pf out_head)) (con_pf _)) (lst_pf inE_pf in_head)) (con_pf _)) (lst_pf strE_pf str_head)) (con_pf _)) strE_pf) (con_pf _)) strE_pf) (con_pf _)) (lst_pf strE_pf str_head)) (con_pf _)) ho3
              clear hr3 ho3 HPx HOm HPr HLl HLen
              have HC := take_ok (w.heap.size + 1) s pb14 bb14 ⟨#[41]⟩ wb14 HP.out.rd
              go_wp2_with fail
              refine Calls.mono HC ?_
              rintro e wa15 ⟨⟨va15, rfl⟩, hg1, pa15, ba15, hr1, ho1⟩
              have HPn : Hid (Ps w wa15 s (⟨lb2, lb4, xa6, xa8, xa10, xa12, lb14⟩ : Dv) pa15 ba15) := HP.out.gr hg1 hr1
              have HOn : Hid (Oc (seqE (seqE (seqE (seqE (seqE (seqE (seqE (seqE (seqE (seqE (seqE (seqE (seqE (seqE (conE [68, 101, 114, 105, 118, 101, 40]) (lstE outE)) (conE [44])) (lstE inE)) (conE [44])) (lstE strE)) (conE [44])) strE) (conE [44])) strE) (conE [44])) (lstE strE)) (conE [44])) (lstE pairE)) (conE [41])) s 0 false (((((((((((((((), lb2), ()), lb4), ()), xa6), ()), xa8), ()), xa10), ()), xa12), ()), lb14), ()) pa15 ba15) := HO.out.seq (seq_pf (seq_pf (seq_pf (seq_pf (seq_pf (seq_pf (seq_pf (seq_pf (seq_pf (seq_pf (seq_pf (seq_pf (seq_pf (con_pf _) (lst_pf outE_pf out_head)) (con_pf _)) (lst_pf inE_pf in_head)) (con_pf _)) (lst_pf strE_pf str_head)) (con_pf _)) strE_pf) (con_pf _)) strE_pf) (con_pf _)) (lst_pf strE_pf str_head)) (con_pf _)) (lst_pf pairE_pf pair_head)) ho1
              clear HC hg1 hr1 ho1 HP HO
              have HP := HPn
              have HO := HOn
              clear HPn HOn
              have HOD : Hid (Oc drvE s 0 false (⟨lb2, lb4, xa6, xa8, xa10, xa12, lb14⟩ : Dv) pa15 ba15) := HO.out.map (E := drvS) (fun t => ({ outs := t.1.1.1.1.1.1.1.1.1.1.1.1.1.2, ins := t.1.1.1.1.1.1.1.1.1.1.1.2, srcs := t.1.1.1.1.1.1.1.1.1.2, sys := t.1.1.1.1.1.1.1.2, bld := t.1.1.1.1.1.2, args := t.1.1.1.2, env := t.1.2 } : Dv)) (fun y => (((((((((((((((), y.outs), ()), y.ins), ()), y.srcs), ()), y.sys), ()), y.bld), ()), y.args), ()), y.env), ())) (fun t => (drvS_eq ((fun t => ({ outs := t.1.1.1.1.1.1.1.1.1.1.1.1.1.2, ins := t.1.1.1.1.1.1.1.1.1.1.1.2, srcs := t.1.1.1.1.1.1.1.1.1.2, sys := t.1.1.1.1.1.1.1.2, bld := t.1.1.1.1.1.2, args := t.1.1.1.2, env := t.1.2 } : Dv)) t)).symm) drvS_eq
              obtain ⟨dd, hdd⟩ : ∃ dd, dd = (⟨lb2, lb4, xa6, xa8, xa10, xa12, lb14⟩ : Dv) := ⟨_, rfl⟩
              rw [← hdd] at HP HOD
              clear hdd HO
              obtain ⟨c0, c1, c2, _, _⟩ := HP.out.rd.cells
              have hple := HP.out.rd.le
              have HR0 := HP.out.res
              cases hbb : ba15 with
              | true =>
                rw [hbb] at c2 HOD
                have HFs : Hid (Fails s 10) := fail_bad HS.out HOD.out
                have HE : Hid (ParsePost s w (.returned (.tuple #[.agg zDrv, .int .i64 10])) (wa15.setRow w.heap.size zDrv)) := ⟨HP.out.bel.trans (below_setRow (Nat.le_refl _) _), .inr ⟨10, by decide, HFs.out, rfl⟩⟩
                clear HP HOD hbb
                go_wp2_with (refine wpList_store_row rfl 27 _ _ rfl w.heap.size zDrv rfl rfl 27 zDrv HR0 info_drv rfl (drv_one _ _ _ _ _ _ _ _ _ _ _ _ _ _ _ _ _) ?_)
                refine bodyPost_ret (results_cell_row2 resultsRParse _ _ w.heap.size 27 zDrv (0, 0) _ rfl (Row.setRow HR0) Tryd.underlying27 rfl info_drv) rfl ?_
                exact HRP.out _ _ HE.out
              | false =>
                rw [hbb] at c2 HOD
                by_cases hlt : pa15 < s.size
                · have HFs : Hid (Fails s 10) := fail_rest HS.out hlt HOD.out
                  have HE : Hid (ParsePost s w (.returned (.tuple #[.agg zDrv, .int .i64 10])) (wa15.setRow w.heap.size zDrv)) := ⟨HP.out.bel.trans (below_setRow (Nat.le_refl _) _), .inr ⟨10, by decide, HFs.out, rfl⟩⟩
                  clear HP HOD hbb
                  go_wp2_with (refine wpList_store_row rfl 27 _ _ rfl w.heap.size zDrv rfl rfl 27 zDrv HR0 info_drv rfl (drv_one _ _ _ _ _ _ _ _ _ _ _ _ _ _ _ _ _) ?_)
                  refine bodyPost_ret (results_cell_row2 resultsRParse _ _ w.heap.size 27 zDrv (0, 0) _ rfl (Row.setRow HR0) Tryd.underlying27 rfl info_drv) rfl ?_
                  exact HRP.out _ _ HE.out
                · have HDE : Hid (bl s = drvE dd) := read_whole (by omega) HOD.out
                  obtain ⟨x0, x1, x2, x5, x6, r, l0, l1, l2, l5, l6⟩ := HP.out.dr
                  obtain ⟨a0, k0, rfl⟩ := l0.shape
                  obtain ⟨a1, k1, rfl⟩ := l1.shape
                  obtain ⟨a2, k2, rfl⟩ := l2.shape
                  obtain ⟨a5, k5, rfl⟩ := l5.shape
                  obtain ⟨a6, k6, rfl⟩ := l6.shape
                  obtain ⟨cs, hcs⟩ : ∃ cs : Array Value, cs = #[.slice a0 dd.outs.length k0, .slice a1 dd.ins.length k1, .slice a2 dd.srcs.length k2, .string dd.sys, .string dd.bld, .slice a5 dd.args.length k5, .slice a6 dd.env.length k6] := ⟨_, rfl⟩
                  have HDA : Hid (DrvAt wa15 dd cs) := ⟨_, _, _, _, _, hcs, l0.sl, l1.sl, l2.sl, l5.sl, l6.sl⟩
                  have HDO : Hid (DrvO (w.heap.size + 1) wa15 (.agg cs) dd) := ⟨_, _, _, _, _, by rw [hcs], l0, l1, l2, l5, l6⟩
                  rw [← hcs] at r
                  have hcz : cs.size = 7 := by rw [hcs]; rfl
                  have hci : (Tryd.prog.info? 27).map (·.size) = some cs.size := by rw [hcz]; exact info_drv
                  have hone : cs.all (·.oneCell') = true := by rw [hcs]; exact drv_one _ _ _ _ _ _ _ _ _ _ _ _ _ _ _ _ _
                  have HRR := rright_ok dd cs wa15 HDA.out
                  clear l0 l1 l2 l5 l6 hcs
                  go_wp2_with (refine wpList_load_row rfl 27 _ rfl (w.heap.size + 2) rfl 27 cs (0, 0) _ r Tryd.underlying27 rfl hci ?_)
                  refine Calls.mono HRR ?_
                  rintro e wq ⟨rfl, hbq⟩
                  have hRq : Row wq w.heap.size zDrv 27 := HR0.below hbq HR0.lt
                  have hrq : Row wq (w.heap.size + 2) cs 27 := r.below hbq r.lt
                  have HBq : Hid (Below w.heap.size w wq) := HP.out.bel.trans (hbq.mono HP.out.bel.size)
                  have HDq : Hid (DrvO (w.heap.size + 1) wq (.agg cs) dd) := HDO.out.keep fun k _ hlt => hbq.block k hlt
                  have HLT : Hid (w.heap.size + 2 < wq.heap.size) := hrq.lt
                  clear HRR hbq r HP HDA HDO HOD
                  by_cases hr0 : rightE dd = 0
                  · have hz : (rightE dd != 0) = false := by rw [hr0]; rfl
                    have HE : Hid (ParsePost s w (.returned (.tuple #[.agg cs, .int .i64 0])) (wq.setRow w.heap.size cs)) := ⟨HBq.out.trans (below_setRow (Nat.le_refl _) _), .inl ⟨cs, dd, rfl, by
                      have h3 := HDq.out.keep (w' := wq.setRow w.heap.size cs) fun k hk _ => setRow_other wq w.heap.size k cs (by omega)
                      obtain ⟨cs', e1, hda, _⟩ := h3.at
                      obtain rfl : cs = cs' := Value.agg.inj e1
                      exact hda, HS.out, HDE.out, hr0⟩⟩
                    go_wp2_with (first
                      | refine wpList_load_row rfl 27 _ rfl (w.heap.size + 2) rfl 27 cs (0, 0) _ hrq Tryd.underlying27 rfl hci ?_
                      | refine wpList_store_row rfl 27 _ _ rfl w.heap.size cs rfl rfl 27 zDrv hRq hci (by rw [hcz]; rfl) hone ?_)
                    refine bodyPost_ret (results_cell_row2 resultsRParse _ _ w.heap.size 27 cs (0, 0) _ rfl (Row.setRow hRq) Tryd.underlying27 rfl hci) rfl ?_
                    exact HRP.out _ _ HE.out
                  · have hz : (rightE dd != 0) = true := by simpa using hr0
                    have HE : Hid (ParsePost s w (.returned (.tuple #[.agg zDrv, .int .i64 (rightE dd)])) (wq.setRow w.heap.size zDrv)) := ⟨HBq.out.trans (below_setRow (Nat.le_refl _) _), .inr ⟨rightE dd, hr0, .inr ⟨HS.out, .inr ⟨dd, HDE.out, hr0, rfl⟩⟩, rfl⟩⟩
                    go_wp2_with (refine wpList_store_row rfl 27 _ _ rfl w.heap.size zDrv rfl rfl 27 zDrv hRq info_drv rfl (drv_one _ _ _ _ _ _ _ _ _ _ _ _ _ _ _ _ _) ?_)
                    refine bodyPost_ret (results_cell_row2 resultsRParse _ _ w.heap.size 27 zDrv (0, 0) _ rfl (Row.setRow hRq) Tryd.underlying27 rfl info_drv) rfl ?_
                    exact HRP.out _ _ HE.out
            · have HPa : Hid (Ps w w2 s (⟨lb2, lb4, xa6, xa8, xa10, xa12, l⟩ : Dv) p1 false) := HPx.out _ _ hr1
              have HNx : Hid _ := hnext
              clear hr1 hnext HPx
              have HW : Hid (Row (w2.alloc (.cells #[.string ⟨#[]⟩, .string ⟨#[]⟩] 60)) w2.heap.size #[.string ⟨#[]⟩, .string ⟨#[]⟩] 60) := Row.new w2 _ _
              have HR : Hid (Rr (w2.alloc (.cells #[.string ⟨#[]⟩, .string ⟨#[]⟩] 60)) (w.heap.size + 1) s p1 false) := HPa.out.rd.keep (below_new (Below.refl _ _) _)
              have HG : Hid (Gr (w.heap.size + 1) w2 (w2.alloc (.cells #[.string ⟨#[]⟩, .string ⟨#[]⟩] 60))) := Gr.of (below_new (Below.refl _ _) _)
              have HNE : Hid (w2.heap.size ≠ w.heap.size + 1) := by show _ ≠ _; have := HPa.out.rd.row.lt; omega
              have HC := take_ok (w.heap.size + 1) s p1 false ⟨#[40]⟩ (w2.alloc (.cells #[.string ⟨#[]⟩, .string ⟨#[]⟩] 60)) HR.out
              go_wp2_with (refine store_new rfl 60 _ _ rfl w2 _ #[.string ⟨#[]⟩, .string ⟨#[]⟩] 60 rfl w2.heap.size rfl rfl rfl size_pair rfl rfl ?_)
              refine Calls.mono HC ?_
              rintro e we1 ⟨⟨ve1, rfl⟩, hg1, pe1, be1, hr1, ho1⟩
              have HOn : Hid (Oc (conE [40]) s p1 false () pe1 be1) := ho1
              have HWn : Hid (Row we1 w2.heap.size #[.string ⟨#[]⟩, .string ⟨#[]⟩] 60) := hg1.row HW.out HNE.out
              have HRn : Hid (Rr we1 (w.heap.size + 1) s pe1 be1) := hr1
              have HGn : Hid (Gr (w.heap.size + 1) w2 we1) := HG.out.trans hg1
              clear HC hg1 hr1 ho1 HR HG HW
              have HW := HWn
              have HR := HRn
              have HG := HGn
              have HOe := HOn
              clear HWn HRn HGn HOn
              have HC := quotedR_ok (w.heap.size + 1) s pe1 be1 we1 HR.out
              go_wp2_with fail
              refine Calls.mono HC ?_
              rintro e we2 ⟨hg1, ve2, xe2, pe2, be2, rfl, rfl, hr1, ho1⟩
              have HOn : Hid (Oc (seqE (conE [40]) strE) s p1 false ((), xe2) pe2 be2) := HOe.out.seq (con_pf _) ho1
              have HV : Hid (Row we2 w2.heap.size #[.string ⟨#[]⟩, .string ⟨#[]⟩] 60) := hg1.row HW.out HNE.out
              have cc := (HV.out.cell 0).trans (rfl : _ = some (Value.string ⟨#[]⟩))
              have zz := HV.out.frozen 0
              have HWn : Hid (Row (we2.setCell ⟨w2.heap.size, 0, none⟩ (.string xe2)) w2.heap.size #[.string xe2, .string ⟨#[]⟩] 60) := HV.out.setCell _
              have HRn : Hid (Rr (we2.setCell ⟨w2.heap.size, 0, none⟩ (.string xe2)) (w.heap.size + 1) s pe2 be2) := ⟨hr1.row.setCell_other (fun e => HNE.out e.symm) _, hr1.le, hr1.small⟩
              have HGn : Hid (Gr (w.heap.size + 1) w2 (we2.setCell ⟨w2.heap.size, 0, none⟩ (.string xe2))) := Gr.set (HG.out.trans hg1) (Nat.le_refl _) _
              clear HC hg1 hr1 ho1 HR HG HW HOe HV
              have HW := HWn
              have HR := HRn
              have HG := HGn
              have HOe := HOn
              clear HWn HRn HGn HOn
              have HC := take_ok (w.heap.size + 1) s pe2 be2 ⟨#[44]⟩ (we2.setCell ⟨w2.heap.size, 0, none⟩ (.string xe2)) HR.out
              go_wp2_with fail
              refine Calls.mono HC ?_
              rintro e we3 ⟨⟨ve3, rfl⟩, hg1, pe3, be3, hr1, ho1⟩
              have HOn : Hid (Oc (seqE (seqE (conE [40]) strE) (conE [44])) s p1 false (((), xe2), ()) pe3 be3) := HOe.out.seq (seq_pf (con_pf _) strE_pf) ho1
              have HWn : Hid (Row we3 w2.heap.size #[.string xe2, .string ⟨#[]⟩] 60) := hg1.row HW.out HNE.out
              have HRn : Hid (Rr we3 (w.heap.size + 1) s pe3 be3) := hr1
              have HGn : Hid (Gr (w.heap.size + 1) w2 we3) := HG.out.trans hg1
              clear HC hg1 hr1 ho1 HR HG HW HOe
              have HW := HWn
              have HR := HRn
              have HG := HGn
              have HOe := HOn
              clear HWn HRn HGn HOn
              have HC := quotedR_ok (w.heap.size + 1) s pe3 be3 we3 HR.out
              go_wp2_with fail
              refine Calls.mono HC ?_
              rintro e we4 ⟨hg1, ve4, xe4, pe4, be4, rfl, rfl, hr1, ho1⟩
              have HOn : Hid (Oc (seqE (seqE (seqE (conE [40]) strE) (conE [44])) strE) s p1 false ((((), xe2), ()), xe4) pe4 be4) := HOe.out.seq (seq_pf (seq_pf (con_pf _) strE_pf) (con_pf _)) ho1
              have HV : Hid (Row we4 w2.heap.size #[.string xe2, .string ⟨#[]⟩] 60) := hg1.row HW.out HNE.out
              have cc := (HV.out.cell 1).trans (rfl : _ = some (Value.string ⟨#[]⟩))
              have zz := HV.out.frozen 1
              have HWn : Hid (Row (we4.setCell ⟨w2.heap.size, 1, none⟩ (.string xe4)) w2.heap.size #[.string xe2, .string xe4] 60) := HV.out.setCell _
              have HRn : Hid (Rr (we4.setCell ⟨w2.heap.size, 1, none⟩ (.string xe4)) (w.heap.size + 1) s pe4 be4) := ⟨hr1.row.setCell_other (fun e => HNE.out e.symm) _, hr1.le, hr1.small⟩
              have HGn : Hid (Gr (w.heap.size + 1) w2 (we4.setCell ⟨w2.heap.size, 1, none⟩ (.string xe4))) := Gr.set (HG.out.trans hg1) (Nat.le_refl _) _
              clear HC hg1 hr1 ho1 HR HG HW HOe HV
              have HW := HWn
              have HR := HRn
              have HG := HGn
              have HOe := HOn
              clear HWn HRn HGn HOn
              have HC := take_ok (w.heap.size + 1) s pe4 be4 ⟨#[41]⟩ (we4.setCell ⟨w2.heap.size, 1, none⟩ (.string xe4)) HR.out
              go_wp2_with fail
              refine Calls.mono HC ?_
              rintro e we5 ⟨⟨ve5, rfl⟩, hg1, pe5, be5, hr1, ho1⟩
              have HOn : Hid (Oc (seqE (seqE (seqE (seqE (conE [40]) strE) (conE [44])) strE) (conE [41])) s p1 false (((((), xe2), ()), xe4), ()) pe5 be5) := HOe.out.seq (seq_pf (seq_pf (seq_pf (con_pf _) strE_pf) (con_pf _)) strE_pf) ho1
              have HWn : Hid (Row we5 w2.heap.size #[.string xe2, .string xe4] 60) := hg1.row HW.out HNE.out
              have HRn : Hid (Rr we5 (w.heap.size + 1) s pe5 be5) := hr1
              have HGn : Hid (Gr (w.heap.size + 1) w2 we5) := HG.out.trans hg1
              clear HC hg1 hr1 ho1 HR HG HW HOe
              have HW := HWn
              have HR := HRn
              have HG := HGn
              have HOe := HOn
              clear HWn HRn HGn HOn
              have HOE : Hid (Oc pairE s p1 false (xe2, xe4) pe5 be5) := HOe.out.map (E := pairS) (fun t => (t.1.1.1.2, t.1.2)) (fun y => (((((), y.1), ()), y.2), ())) (fun t => (pairS_eq ((fun t => (t.1.1.1.2, t.1.2)) t)).symm) pairS_eq
              have HPk : Hid (Ps w we5 s (⟨lb2, lb4, xa6, xa8, xa10, xa12, l⟩ : Dv) pe5 be5) := HPa.out.gr HG.out HR.out
              obtain ⟨x0, x1, x2, x5, x6, r, l0, l1, l2, l5, l6⟩ := HPk.out.dr
              obtain ⟨a, c, rfl⟩ := l6.shape
              have ck := (r.cell 6).trans (rfl : _ = some (Value.slice a l.length c))
              have hrun := run_one_pair we5 (xe2, xe4)
              have hbA : Below we5.heap.size we5 (we5.alloc (.cells #[.string xe2, .string xe4] 60)) := below_new (Below.refl _ _) _
              have HPA : Hid (Ps w (we5.alloc (.cells #[.string xe2, .string xe4] 60)) s (⟨lb2, lb4, xa6, xa8, xa10, xa12, l⟩ : Dv) pe5 be5) := HPk.out.bl hbA
              have HrA : Hid (Row (we5.alloc (.cells #[.string xe2, .string xe4] 60)) (w.heap.size + 2) #[x0, x1, x2, .string xa8, .string xa10, x5, (.slice a l.length c)] 27) := r.alloc _
              have HlA : Hid (OutL (w.heap.size + 2) (w.heap.size + 1) (we5.alloc (.cells #[.string xe2, .string xe4] 60)) x0 lb2 ∧ InL (w.heap.size + 2) (w.heap.size + 1) (we5.alloc (.cells #[.string xe2, .string xe4] 60)) x1 lb4 ∧ StrL (w.heap.size + 2) (w.heap.size + 1) (we5.alloc (.cells #[.string xe2, .string xe4] 60)) x2 xa6 ∧ StrL (w.heap.size + 2) (w.heap.size + 1) (we5.alloc (.cells #[.string xe2, .string xe4] 60)) x5 xa12 ∧ PairL (w.heap.size + 2) (w.heap.size + 1) (we5.alloc (.cells #[.string xe2, .string xe4] 60)) (.slice a l.length c) l) := ⟨l0.gr (Gr.of hbA) (by omega), l1.gr (Gr.of hbA) (by omega), l2.gr (Gr.of hbA) (by omega), l5.gr (Gr.of hbA) (by omega), l6.gr (Gr.of hbA) (by omega)⟩
              have HSA : Hid (SlAt (we5.alloc (.cells #[.string xe2, .string xe4] 60)) (.slice (some ⟨we5.heap.size, 0, none⟩) 1 1) 1 [.string xe2, .string xe4]) := slat_new we5 [.string xe2, .string xe4] 60 1 (by decide)
              obtain ⟨C, hoA, hcA⟩ := HlA.out.2.2.2.2
              have HOA : Hid _ := hoA
              have HCA : Hid _ := hcA
              have hszA : w.heap.size + 2 ≤ (we5.alloc (.cells #[.string xe2, .string xe4] 60)).heap.size := Nat.le_of_lt HrA.out.lt
              have HLc : Hid (Lc pairE s pm bm (l ++ [(xe2, xe4)]) pe5 be5) := HNx.out _ _ _ HOE.out
              have HLt : Hid (be5 = false → p2 < pe5) := fun e => by
                have hE := HOE.out
                rw [e] at hE
                have := Oc.lt pair_head hE HPa.out.rd.le HR.out.le
                omega
              clear r l0 l1 l2 l5 l6 hoA hcA HG
              go_wp2_with (first
                | refine wpList_load_row rfl 60 _ rfl w2.heap.size rfl 60 #[.string xe2, .string xe4] (0, 0) _ HW.out Tryd.underlying60 rfl size_pair ?_
                | refine ap_sl rfl _ _ 25 rfl 60 _ 2 32 Tryd.underlying25 info_pair rfl (by decide) (by decide) (w.heap.size + 2) _ l.length C rfl HOA.out _ 1 [.string xe2, .string xe4] rfl HSA.out rfl (fun u hu => by simp at hu; rcases hu with rfl | rfl <;> rfl) (by have := HLen.out; omega) hszA ?_)
              intro v5 w5 ho5 hg5
              have HX5 : Hid (PairL (w.heap.size + 2) (w.heap.size + 1) w5 v5 (l ++ [(xe2, xe4)])) := ⟨C ++ [.string xe2, .string xe4], by rw [List.length_append]; exact ho5, PairC.snoc (x := (xe2, xe4)) (PairC.own HCA.out HOA.out hg5)⟩
              obtain ⟨a9, c9, rfl⟩ := HX5.out.shape
              have rg := row_grownO HrA.out HOA.out hg5 (by decide)
              have cg := (rg.cell 6).trans (rfl : _ = some (Value.slice a l.length c))
              have zg := rg.frozen 6
              have HP5 : Hid (Ps w (w5.setCell ⟨w.heap.size + 2, 6, none⟩ (.slice a9 (l.length + 1) c9)) s (⟨lb2, lb4, xa6, xa8, xa10, xa12, (l ++ [(xe2, xe4)])⟩ : Dv) pe5 be5) := by
                have q := Ps.appEnv (d := (⟨lb2, lb4, xa6, xa8, xa10, xa12, l⟩ : Dv)) (x := (xe2, xe4)) HPA.out.bel HPA.out.res HPA.out.rd HrA.out HlA.out.1 HlA.out.2.1 HlA.out.2.2.1 HlA.out.2.2.2.1 HOA.out hg5 HX5.out
                rw [show (l ++ [(xe2, xe4)]).length = l.length + 1 by rw [List.length_append, List.length_singleton]] at q
                exact q
              have HM5 : Hid (leftR s (w.heap.size + 1) (w5.setCell ⟨w.heap.size + 2, 6, none⟩ (.slice a9 (l.length + 1) c9)) < leftR s (w.heap.size + 1) wr) := leftR_lt HPr.out.rd HP5.out.rd HLt.out
              have HLl5 : Hid ((be5 = false → (l ++ [(xe2, xe4)]).length ≤ pe5) ∧ (l ++ [(xe2, xe4)]).length ≤ s.size + 1) := by
                have h1 := HLl.out.1 trivial
                have h2 := HPr.out.rd.le
                rw [List.length_append, List.length_singleton]
                exact ⟨fun e => by have := HLt.out e; omega, by omega⟩
              clear ho5 rg hg5 HOA HCA HrA HlA HSA HPA HPk HPa hrun hszA HNx HPr HW HR HOE HOe ck
              go_wp2
              go_roundw
              case rel => exact ⟨l ++ [(xe2, xe4)], pe5, be5, HP5, HLc, HLl5⟩
              case measure => exact HM5.out
        · have HPa : Hid (Ps w w2 s (⟨lb2, l, [], ⟨#[]⟩, ⟨#[]⟩, [], []⟩ : Dv) p1 false) := HPx.out _ _ hr1
          have HNx : Hid _ := hnext
          clear hr1 hnext HPx
          have HW : Hid (Row (w2.alloc (.cells #[.string ⟨#[]⟩, .slice none 0 0] 52)) w2.heap.size #[.string ⟨#[]⟩, .slice none 0 0] 52) := Row.new w2 _ _
          have HR : Hid (Rr (w2.alloc (.cells #[.string ⟨#[]⟩, .slice none 0 0] 52)) (w.heap.size + 1) s p1 false) := HPa.out.rd.keep (below_new (Below.refl _ _) _)
          have HG : Hid (Gr (w.heap.size + 1) w2 (w2.alloc (.cells #[.string ⟨#[]⟩, .slice none 0 0] 52))) := Gr.of (below_new (Below.refl _ _) _)
          have HNE : Hid (w2.heap.size ≠ w.heap.size + 1) := by show _ ≠ _; have := HPa.out.rd.row.lt; omega
          have HC := take_ok (w.heap.size + 1) s p1 false ⟨#[40]⟩ (w2.alloc (.cells #[.string ⟨#[]⟩, .slice none 0 0] 52)) HR.out
          go_wp2_with (refine store_new rfl 52 _ _ rfl w2 _ #[.string ⟨#[]⟩, .slice none 0 0] 52 rfl w2.heap.size rfl rfl rfl size_input rfl rfl ?_)
          refine Calls.mono HC ?_
          rintro e we1 ⟨⟨ve1, rfl⟩, hg1, pe1, be1, hr1, ho1⟩
          have HOn : Hid (Oc (conE [40]) s p1 false () pe1 be1) := ho1
          have HWn : Hid (Row we1 w2.heap.size #[.string ⟨#[]⟩, .slice none 0 0] 52) := hg1.row HW.out HNE.out
          have HRn : Hid (Rr we1 (w.heap.size + 1) s pe1 be1) := hr1
          have HGn : Hid (Gr (w.heap.size + 1) w2 we1) := HG.out.trans hg1
          clear HC hg1 hr1 ho1 HR HG HW
          have HW := HWn
          have HR := HRn
          have HG := HGn
          have HOe := HOn
          clear HWn HRn HGn HOn
          have HC := quotedR_ok (w.heap.size + 1) s pe1 be1 we1 HR.out
          go_wp2_with fail
          refine Calls.mono HC ?_
          rintro e we2 ⟨hg1, ve2, xe2, pe2, be2, rfl, rfl, hr1, ho1⟩
          have HOn : Hid (Oc (seqE (conE [40]) strE) s p1 false ((), xe2) pe2 be2) := HOe.out.seq (con_pf _) ho1
          have HV : Hid (Row we2 w2.heap.size #[.string ⟨#[]⟩, .slice none 0 0] 52) := hg1.row HW.out HNE.out
          have cc := (HV.out.cell 0).trans (rfl : _ = some (Value.string ⟨#[]⟩))
          have zz := HV.out.frozen 0
          have HWn : Hid (Row (we2.setCell ⟨w2.heap.size, 0, none⟩ (.string xe2)) w2.heap.size #[.string xe2, .slice none 0 0] 52) := HV.out.setCell _
          have HRn : Hid (Rr (we2.setCell ⟨w2.heap.size, 0, none⟩ (.string xe2)) (w.heap.size + 1) s pe2 be2) := ⟨hr1.row.setCell_other (fun e => HNE.out e.symm) _, hr1.le, hr1.small⟩
          have HGn : Hid (Gr (w.heap.size + 1) w2 (we2.setCell ⟨w2.heap.size, 0, none⟩ (.string xe2))) := Gr.set (HG.out.trans hg1) (Nat.le_refl _) _
          clear HC hg1 hr1 ho1 HR HG HW HOe HV
          have HW := HWn
          have HR := HRn
          have HG := HGn
          have HOe := HOn
          clear HWn HRn HGn HOn
          have HC := take_ok (w.heap.size + 1) s pe2 be2 ⟨#[44]⟩ (we2.setCell ⟨w2.heap.size, 0, none⟩ (.string xe2)) HR.out
          go_wp2_with fail
          refine Calls.mono HC ?_
          rintro e we3 ⟨⟨ve3, rfl⟩, hg1, pe3, be3, hr1, ho1⟩
          have HOn : Hid (Oc (seqE (seqE (conE [40]) strE) (conE [44])) s p1 false (((), xe2), ()) pe3 be3) := HOe.out.seq (seq_pf (con_pf _) strE_pf) ho1
          have HWn : Hid (Row we3 w2.heap.size #[.string xe2, .slice none 0 0] 52) := hg1.row HW.out HNE.out
          have HRn : Hid (Rr we3 (w.heap.size + 1) s pe3 be3) := hr1
          have HGn : Hid (Gr (w.heap.size + 1) w2 we3) := HG.out.trans hg1
          clear HC hg1 hr1 ho1 HR HG HW HOe
          have HW := HWn
          have HR := HRn
          have HG := HGn
          have HOe := HOn
          clear HWn HRn HGn HOn
          have HC := textsR_ok (w.heap.size + 1) s pe3 be3 we3 HR.out
          go_wp2_with fail
          refine Calls.mono HC ?_
          rintro e we4 ⟨hg1, ve4, xe4, pe4, be4, rfl, hv1, hr1, ho1⟩
          obtain ⟨na, nc, rfl⟩ := hv1.shape
          have HOn : Hid (Oc (seqE (seqE (seqE (conE [40]) strE) (conE [44])) (lstE strE)) s p1 false ((((), xe2), ()), xe4) pe4 be4) := HOe.out.seq (seq_pf (seq_pf (con_pf _) strE_pf) (con_pf _)) ho1
          have HV : Hid (Row we4 w2.heap.size #[.string xe2, .slice none 0 0] 52) := hg1.row HW.out HNE.out
          have cc := (HV.out.cell 1).trans (rfl : _ = some (Value.slice none 0 0))
          have zz := HV.out.frozen 1
          have HWn : Hid (Row (we4.setCell ⟨w2.heap.size, 1, none⟩ (.slice na xe4.length nc)) w2.heap.size #[.string xe2, .slice na xe4.length nc] 52) := HV.out.setCell _
          have HRn : Hid (Rr (we4.setCell ⟨w2.heap.size, 1, none⟩ (.slice na xe4.length nc)) (w.heap.size + 1) s pe4 be4) := ⟨hr1.row.setCell_other (fun e => HNE.out e.symm) _, hr1.le, hr1.small⟩
          have HGn : Hid (Gr (w.heap.size + 1) w2 (we4.setCell ⟨w2.heap.size, 1, none⟩ (.slice na xe4.length nc))) := Gr.set (HG.out.trans hg1) (Nat.le_refl _) _
          have HNL : Hid (StrL (w.heap.size + 2) (w.heap.size + 1) (we4.setCell ⟨w2.heap.size, 1, none⟩ (.slice na xe4.length nc)) (.slice na xe4.length nc) xe4) := hv1.set HV.out (by decide)
          clear HC hg1 hr1 ho1 HR HG HW HOe HV hv1
          have HW := HWn
          have HR := HRn
          have HG := HGn
          have HOe := HOn
          clear HWn HRn HGn HOn
          have HNLk : Hid (StrL (w.heap.size + 2) (w.heap.size + 1) (we4.setCell ⟨w2.heap.size, 1, none⟩ (.slice na xe4.length nc)) (.slice na xe4.length nc) xe4) := HNL.out
          have HC := take_ok (w.heap.size + 1) s pe4 be4 ⟨#[41]⟩ (we4.setCell ⟨w2.heap.size, 1, none⟩ (.slice na xe4.length nc)) HR.out
          go_wp2_with fail
          refine Calls.mono HC ?_
          rintro e we5 ⟨⟨ve5, rfl⟩, hg1, pe5, be5, hr1, ho1⟩
          have HOn : Hid (Oc (seqE (seqE (seqE (seqE (conE [40]) strE) (conE [44])) (lstE strE)) (conE [41])) s p1 false (((((), xe2), ()), xe4), ()) pe5 be5) := HOe.out.seq (seq_pf (seq_pf (seq_pf (con_pf _) strE_pf) (con_pf _)) (lst_pf strE_pf str_head)) ho1
          have HWn : Hid (Row we5 w2.heap.size #[.string xe2, .slice na xe4.length nc] 52) := hg1.row HW.out HNE.out
          have HRn : Hid (Rr we5 (w.heap.size + 1) s pe5 be5) := hr1
          have HGn : Hid (Gr (w.heap.size + 1) w2 we5) := HG.out.trans hg1
          have HNL5 : Hid (StrL (w.heap.size + 2) (w.heap.size + 1) we5 (.slice na xe4.length nc) xe4) := HNLk.out.gr hg1 (by omega)
          clear HC hg1 hr1 ho1 HR HG HW HOe
          have HW := HWn
          have HR := HRn
          have HG := HGn
          have HOe := HOn
          clear HWn HRn HGn HOn
          have HOE : Hid (Oc inE s p1 false (xe2, xe4) pe5 be5) := HOe.out.map (E := inS) (fun t => (t.1.1.1.2, t.1.2)) (fun y => (((((), y.1), ()), y.2), ())) (fun t => (inS_eq ((fun t => (t.1.1.1.2, t.1.2)) t)).symm) inS_eq
          have HPk : Hid (Ps w we5 s (⟨lb2, l, [], ⟨#[]⟩, ⟨#[]⟩, [], []⟩ : Dv) pe5 be5) := HPa.out.gr HG.out HR.out
          obtain ⟨x0, x1, x2, x5, x6, r, l0, l1, l2, l5, l6⟩ := HPk.out.dr
          obtain ⟨a, c, rfl⟩ := l1.shape
          have ck := (r.cell 1).trans (rfl : _ = some (Value.slice a l.length c))
          have hrun := run_one_in we5 xe2 (.slice na xe4.length nc) rfl
          have hbA : Below we5.heap.size we5 (we5.alloc (.cells #[.string xe2, .slice na xe4.length nc] 52)) := below_new (Below.refl _ _) _
          have HPA : Hid (Ps w (we5.alloc (.cells #[.string xe2, .slice na xe4.length nc] 52)) s (⟨lb2, l, [], ⟨#[]⟩, ⟨#[]⟩, [], []⟩ : Dv) pe5 be5) := HPk.out.bl hbA
          have HrA : Hid (Row (we5.alloc (.cells #[.string xe2, .slice na xe4.length nc] 52)) (w.heap.size + 2) #[x0, (.slice a l.length c), x2, .string ⟨#[]⟩, .string ⟨#[]⟩, x5, x6] 27) := r.alloc _
          have HlA : Hid (OutL (w.heap.size + 2) (w.heap.size + 1) (we5.alloc (.cells #[.string xe2, .slice na xe4.length nc] 52)) x0 lb2 ∧ InL (w.heap.size + 2) (w.heap.size + 1) (we5.alloc (.cells #[.string xe2, .slice na xe4.length nc] 52)) (.slice a l.length c) l ∧ StrL (w.heap.size + 2) (w.heap.size + 1) (we5.alloc (.cells #[.string xe2, .slice na xe4.length nc] 52)) x2 [] ∧ StrL (w.heap.size + 2) (w.heap.size + 1) (we5.alloc (.cells #[.string xe2, .slice na xe4.length nc] 52)) x5 [] ∧ PairL (w.heap.size + 2) (w.heap.size + 1) (we5.alloc (.cells #[.string xe2, .slice na xe4.length nc] 52)) x6 []) := ⟨l0.gr (Gr.of hbA) (by omega), l1.gr (Gr.of hbA) (by omega), l2.gr (Gr.of hbA) (by omega), l5.gr (Gr.of hbA) (by omega), l6.gr (Gr.of hbA) (by omega)⟩
          have HSA : Hid (SlAt (we5.alloc (.cells #[.string xe2, .slice na xe4.length nc] 52)) (.slice (some ⟨we5.heap.size, 0, none⟩) 1 1) 1 [.string xe2, .slice na xe4.length nc]) := slat_new we5 [.string xe2, .slice na xe4.length nc] 52 1 (by decide)
          have HNA : Hid ((we5.alloc (.cells #[.string xe2, .slice na xe4.length nc] 52)).ownsRow (w.heap.size + 2) 9 1 (.slice na xe4.length nc) xe4.length (strV xe4)) := by
            obtain ⟨Cn, hn1, hn2⟩ := HNL5.out.gr (Gr.of hbA) (by omega)
            rw [show Cn = strV xe4 from hn2] at hn1
            exact hn1
          obtain ⟨C, hoA, hcA⟩ := HlA.out.2.1
          have HOA : Hid _ := hoA
          have HCA : Hid _ := hcA
          have hszA : w.heap.size + 2 ≤ (we5.alloc (.cells #[.string xe2, .slice na xe4.length nc] 52)).heap.size := Nat.le_of_lt HrA.out.lt
          have HLc : Hid (Lc inE s pm bm (l ++ [(xe2, xe4)]) pe5 be5) := HNx.out _ _ _ HOE.out
          have HLt : Hid (be5 = false → p2 < pe5) := fun e => by
            have hE := HOE.out
            rw [e] at hE
            have := Oc.lt in_head hE HPa.out.rd.le HR.out.le
            omega
          clear r l0 l1 l2 l5 l6 hoA hcA HG
          go_wp2_with (first
            | refine wpList_load_row rfl 52 _ rfl w2.heap.size rfl 52 #[.string xe2, .slice na xe4.length nc] (0, 0) _ HW.out Tryd.underlying52 rfl size_input ?_
            | refine ap_sl rfl _ _ 23 rfl 52 _ 2 40 Tryd.underlying23 info_in rfl (by decide) (by decide) (w.heap.size + 2) _ l.length C rfl HOA.out _ 1 [.string xe2, .slice na xe4.length nc] rfl HSA.out rfl (fun u hu => by simp at hu; rcases hu with rfl | rfl <;> rfl) (by have := HLen.out; omega) hszA ?_)
          intro v5 w5 ho5 hg5
          have HX5 : Hid (InL (w.heap.size + 2) (w.heap.size + 1) w5 v5 (l ++ [(xe2, xe4)])) := ⟨C ++ [.string xe2, .slice na xe4.length nc], by rw [List.length_append]; exact ho5, InC.snoc (x := (xe2, xe4)) (InC.own HCA.out HOA.out hg5) (ownsRow_grown HNA.out HOA.out hg5 (by decide))⟩
          obtain ⟨a9, c9, rfl⟩ := HX5.out.shape
          have rg := row_grownO HrA.out HOA.out hg5 (by decide)
          have cg := (rg.cell 1).trans (rfl : _ = some (Value.slice a l.length c))
          have zg := rg.frozen 1
          have HP5 : Hid (Ps w (w5.setCell ⟨w.heap.size + 2, 1, none⟩ (.slice a9 (l.length + 1) c9)) s (⟨lb2, (l ++ [(xe2, xe4)]), [], ⟨#[]⟩, ⟨#[]⟩, [], []⟩ : Dv) pe5 be5) := by
            have q := Ps.appIn (d := (⟨lb2, l, [], ⟨#[]⟩, ⟨#[]⟩, [], []⟩ : Dv)) (x := (xe2, xe4)) HPA.out.bel HPA.out.res HPA.out.rd HrA.out HlA.out.1 HlA.out.2.2.1 HlA.out.2.2.2.1 HlA.out.2.2.2.2 HOA.out hg5 HX5.out
            rw [show (l ++ [(xe2, xe4)]).length = l.length + 1 by rw [List.length_append, List.length_singleton]] at q
            exact q
          have HM5 : Hid (leftR s (w.heap.size + 1) (w5.setCell ⟨w.heap.size + 2, 1, none⟩ (.slice a9 (l.length + 1) c9)) < leftR s (w.heap.size + 1) wr) := leftR_lt HPr.out.rd HP5.out.rd HLt.out
          have HLl5 : Hid ((be5 = false → (l ++ [(xe2, xe4)]).length ≤ pe5) ∧ (l ++ [(xe2, xe4)]).length ≤ s.size + 1) := by
            have h1 := HLl.out.1 trivial
            have h2 := HPr.out.rd.le
            rw [List.length_append, List.length_singleton]
            exact ⟨fun e => by have := HLt.out e; omega, by omega⟩
          clear ho5 rg hg5 HOA HCA HrA HlA HSA HPA HPk HPa hrun hszA HNx HPr HW HR HOE HOe ck
          go_wp2
          go_roundw
          case rel => exact ⟨l ++ [(xe2, xe4)], pe5, be5, HP5, HLc, HLl5⟩
          case measure => exact HM5.out
    · have HPa : Hid (Ps w w2 s (⟨l, [], [], ⟨#[]⟩, ⟨#[]⟩, [], []⟩ : Dv) p1 false) := HPx.out _ _ hr1
      have HNx : Hid _ := hnext
      clear hr1 hnext HPx
      have HW : Hid (Row (w2.alloc (.cells #[.string ⟨#[]⟩, .string ⟨#[]⟩, .string ⟨#[]⟩] 46)) w2.heap.size #[.string ⟨#[]⟩, .string ⟨#[]⟩, .string ⟨#[]⟩] 46) := Row.new w2 _ _
      have HR : Hid (Rr (w2.alloc (.cells #[.string ⟨#[]⟩, .string ⟨#[]⟩, .string ⟨#[]⟩] 46)) (w.heap.size + 1) s p1 false) := HPa.out.rd.keep (below_new (Below.refl _ _) _)
      have HG : Hid (Gr (w.heap.size + 1) w2 (w2.alloc (.cells #[.string ⟨#[]⟩, .string ⟨#[]⟩, .string ⟨#[]⟩] 46))) := Gr.of (below_new (Below.refl _ _) _)
      have HNE : Hid (w2.heap.size ≠ w.heap.size + 1) := by show _ ≠ _; have := HPa.out.rd.row.lt; omega
      have HC := take_ok (w.heap.size + 1) s p1 false ⟨#[40]⟩ (w2.alloc (.cells #[.string ⟨#[]⟩, .string ⟨#[]⟩, .string ⟨#[]⟩] 46)) HR.out
      go_wp2_with (refine store_new rfl 46 _ _ rfl w2 _ #[.string ⟨#[]⟩, .string ⟨#[]⟩, .string ⟨#[]⟩] 46 rfl w2.heap.size rfl rfl rfl size_output rfl rfl ?_)
      refine Calls.mono HC ?_
      rintro e we1 ⟨⟨ve1, rfl⟩, hg1, pe1, be1, hr1, ho1⟩
      have HOn : Hid (Oc (conE [40]) s p1 false () pe1 be1) := ho1
      have HWn : Hid (Row we1 w2.heap.size #[.string ⟨#[]⟩, .string ⟨#[]⟩, .string ⟨#[]⟩] 46) := hg1.row HW.out HNE.out
      have HRn : Hid (Rr we1 (w.heap.size + 1) s pe1 be1) := hr1
      have HGn : Hid (Gr (w.heap.size + 1) w2 we1) := HG.out.trans hg1
      clear HC hg1 hr1 ho1 HR HG HW
      have HW := HWn
      have HR := HRn
      have HG := HGn
      have HOe := HOn
      clear HWn HRn HGn HOn
      have HC := quotedR_ok (w.heap.size + 1) s pe1 be1 we1 HR.out
      go_wp2_with fail
      refine Calls.mono HC ?_
      rintro e we2 ⟨hg1, ve2, xe2, pe2, be2, rfl, rfl, hr1, ho1⟩
      have HOn : Hid (Oc (seqE (conE [40]) strE) s p1 false ((), xe2) pe2 be2) := HOe.out.seq (con_pf _) ho1
      have HV : Hid (Row we2 w2.heap.size #[.string ⟨#[]⟩, .string ⟨#[]⟩, .string ⟨#[]⟩] 46) := hg1.row HW.out HNE.out
      have cc := (HV.out.cell 0).trans (rfl : _ = some (Value.string ⟨#[]⟩))
      have zz := HV.out.frozen 0
      have HWn : Hid (Row (we2.setCell ⟨w2.heap.size, 0, none⟩ (.string xe2)) w2.heap.size #[.string xe2, .string ⟨#[]⟩, .string ⟨#[]⟩] 46) := HV.out.setCell _
      have HRn : Hid (Rr (we2.setCell ⟨w2.heap.size, 0, none⟩ (.string xe2)) (w.heap.size + 1) s pe2 be2) := ⟨hr1.row.setCell_other (fun e => HNE.out e.symm) _, hr1.le, hr1.small⟩
      have HGn : Hid (Gr (w.heap.size + 1) w2 (we2.setCell ⟨w2.heap.size, 0, none⟩ (.string xe2))) := Gr.set (HG.out.trans hg1) (Nat.le_refl _) _
      clear HC hg1 hr1 ho1 HR HG HW HOe HV
      have HW := HWn
      have HR := HRn
      have HG := HGn
      have HOe := HOn
      clear HWn HRn HGn HOn
      have HC := take_ok (w.heap.size + 1) s pe2 be2 ⟨#[44]⟩ (we2.setCell ⟨w2.heap.size, 0, none⟩ (.string xe2)) HR.out
      go_wp2_with fail
      refine Calls.mono HC ?_
      rintro e we3 ⟨⟨ve3, rfl⟩, hg1, pe3, be3, hr1, ho1⟩
      have HOn : Hid (Oc (seqE (seqE (conE [40]) strE) (conE [44])) s p1 false (((), xe2), ()) pe3 be3) := HOe.out.seq (seq_pf (con_pf _) strE_pf) ho1
      have HWn : Hid (Row we3 w2.heap.size #[.string xe2, .string ⟨#[]⟩, .string ⟨#[]⟩] 46) := hg1.row HW.out HNE.out
      have HRn : Hid (Rr we3 (w.heap.size + 1) s pe3 be3) := hr1
      have HGn : Hid (Gr (w.heap.size + 1) w2 we3) := HG.out.trans hg1
      clear HC hg1 hr1 ho1 HR HG HW HOe
      have HW := HWn
      have HR := HRn
      have HG := HGn
      have HOe := HOn
      clear HWn HRn HGn HOn
      have HC := quotedR_ok (w.heap.size + 1) s pe3 be3 we3 HR.out
      go_wp2_with fail
      refine Calls.mono HC ?_
      rintro e we4 ⟨hg1, ve4, xe4, pe4, be4, rfl, rfl, hr1, ho1⟩
      have HOn : Hid (Oc (seqE (seqE (seqE (conE [40]) strE) (conE [44])) strE) s p1 false ((((), xe2), ()), xe4) pe4 be4) := HOe.out.seq (seq_pf (seq_pf (con_pf _) strE_pf) (con_pf _)) ho1
      have HV : Hid (Row we4 w2.heap.size #[.string xe2, .string ⟨#[]⟩, .string ⟨#[]⟩] 46) := hg1.row HW.out HNE.out
      have cc := (HV.out.cell 1).trans (rfl : _ = some (Value.string ⟨#[]⟩))
      have zz := HV.out.frozen 1
      have HWn : Hid (Row (we4.setCell ⟨w2.heap.size, 1, none⟩ (.string xe4)) w2.heap.size #[.string xe2, .string xe4, .string ⟨#[]⟩] 46) := HV.out.setCell _
      have HRn : Hid (Rr (we4.setCell ⟨w2.heap.size, 1, none⟩ (.string xe4)) (w.heap.size + 1) s pe4 be4) := ⟨hr1.row.setCell_other (fun e => HNE.out e.symm) _, hr1.le, hr1.small⟩
      have HGn : Hid (Gr (w.heap.size + 1) w2 (we4.setCell ⟨w2.heap.size, 1, none⟩ (.string xe4))) := Gr.set (HG.out.trans hg1) (Nat.le_refl _) _
      clear HC hg1 hr1 ho1 HR HG HW HOe HV
      have HW := HWn
      have HR := HRn
      have HG := HGn
      have HOe := HOn
      clear HWn HRn HGn HOn
      have HC := take_ok (w.heap.size + 1) s pe4 be4 ⟨#[44]⟩ (we4.setCell ⟨w2.heap.size, 1, none⟩ (.string xe4)) HR.out
      go_wp2_with fail
      refine Calls.mono HC ?_
      rintro e we5 ⟨⟨ve5, rfl⟩, hg1, pe5, be5, hr1, ho1⟩
      have HOn : Hid (Oc (seqE (seqE (seqE (seqE (conE [40]) strE) (conE [44])) strE) (conE [44])) s p1 false (((((), xe2), ()), xe4), ()) pe5 be5) := HOe.out.seq (seq_pf (seq_pf (seq_pf (con_pf _) strE_pf) (con_pf _)) strE_pf) ho1
      have HWn : Hid (Row we5 w2.heap.size #[.string xe2, .string xe4, .string ⟨#[]⟩] 46) := hg1.row HW.out HNE.out
      have HRn : Hid (Rr we5 (w.heap.size + 1) s pe5 be5) := hr1
      have HGn : Hid (Gr (w.heap.size + 1) w2 we5) := HG.out.trans hg1
      clear HC hg1 hr1 ho1 HR HG HW HOe
      have HW := HWn
      have HR := HRn
      have HG := HGn
      have HOe := HOn
      clear HWn HRn HGn HOn
      have HC := quotedR_ok (w.heap.size + 1) s pe5 be5 we5 HR.out
      go_wp2_with fail
      refine Calls.mono HC ?_
      rintro e we6 ⟨hg1, ve6, xe6, pe6, be6, rfl, rfl, hr1, ho1⟩
      have HOn : Hid (Oc (seqE (seqE (seqE (seqE (seqE (conE [40]) strE) (conE [44])) strE) (conE [44])) strE) s p1 false ((((((), xe2), ()), xe4), ()), xe6) pe6 be6) := HOe.out.seq (seq_pf (seq_pf (seq_pf (seq_pf (con_pf _) strE_pf) (con_pf _)) strE_pf) (con_pf _)) ho1
      have HV : Hid (Row we6 w2.heap.size #[.string xe2, .string xe4, .string ⟨#[]⟩] 46) := hg1.row HW.out HNE.out
      have cc := (HV.out.cell 2).trans (rfl : _ = some (Value.string ⟨#[]⟩))
      have zz := HV.out.frozen 2
      have HWn : Hid (Row (we6.setCell ⟨w2.heap.size, 2, none⟩ (.string xe6)) w2.heap.size #[.string xe2, .string xe4, .string xe6] 46) := HV.out.setCell _
      have HRn : Hid (Rr (we6.setCell ⟨w2.heap.size, 2, none⟩ (.string xe6)) (w.heap.size + 1) s pe6 be6) := ⟨hr1.row.setCell_other (fun e => HNE.out e.symm) _, hr1.le, hr1.small⟩
      have HGn : Hid (Gr (w.heap.size + 1) w2 (we6.setCell ⟨w2.heap.size, 2, none⟩ (.string xe6))) := Gr.set (HG.out.trans hg1) (Nat.le_refl _) _
      clear HC hg1 hr1 ho1 HR HG HW HOe HV
      have HW := HWn
      have HR := HRn
      have HG := HGn
      have HOe := HOn
      clear HWn HRn HGn HOn
      have HC := take_ok (w.heap.size + 1) s pe6 be6 ⟨#[41]⟩ (we6.setCell ⟨w2.heap.size, 2, none⟩ (.string xe6)) HR.out
      go_wp2_with fail
      refine Calls.mono HC ?_
      rintro e we7 ⟨⟨ve7, rfl⟩, hg1, pe7, be7, hr1, ho1⟩
      have HOn : Hid (Oc (seqE (seqE (seqE (seqE (seqE (seqE (conE [40]) strE) (conE [44])) strE) (conE [44])) strE) (conE [41])) s p1 false (((((((), xe2), ()), xe4), ()), xe6), ()) pe7 be7) := HOe.out.seq (seq_pf (seq_pf (seq_pf (seq_pf (seq_pf (con_pf _) strE_pf) (con_pf _)) strE_pf) (con_pf _)) strE_pf) ho1
      have HWn : Hid (Row we7 w2.heap.size #[.string xe2, .string xe4, .string xe6] 46) := hg1.row HW.out HNE.out
      have HRn : Hid (Rr we7 (w.heap.size + 1) s pe7 be7) := hr1
      have HGn : Hid (Gr (w.heap.size + 1) w2 we7) := HG.out.trans hg1
      clear HC hg1 hr1 ho1 HR HG HW HOe
      have HW := HWn
      have HR := HRn
      have HG := HGn
      have HOe := HOn
      clear HWn HRn HGn HOn
      have HOE : Hid (Oc outE s p1 false (xe2, xe4, xe6) pe7 be7) := HOe.out.map (E := outS) (fun t => (t.1.1.1.1.1.2, t.1.1.1.2, t.1.2)) (fun y => (((((((), y.1), ()), y.2.1), ()), y.2.2), ())) (fun t => (outS_eq ((fun t => (t.1.1.1.1.1.2, t.1.1.1.2, t.1.2)) t)).symm) outS_eq
      have HPk : Hid (Ps w we7 s (⟨l, [], [], ⟨#[]⟩, ⟨#[]⟩, [], []⟩ : Dv) pe7 be7) := HPa.out.gr HG.out HR.out
      obtain ⟨x0, x1, x2, x5, x6, r, l0, l1, l2, l5, l6⟩ := HPk.out.dr
      obtain ⟨a, c, rfl⟩ := l0.shape
      have ck := (r.cell 0).trans (rfl : _ = some (Value.slice a l.length c))
      have hrun := run_one_out we7 (xe2, xe4, xe6)
      have hbA : Below we7.heap.size we7 (we7.alloc (.cells #[.string xe2, .string xe4, .string xe6] 46)) := below_new (Below.refl _ _) _
      have HPA : Hid (Ps w (we7.alloc (.cells #[.string xe2, .string xe4, .string xe6] 46)) s (⟨l, [], [], ⟨#[]⟩, ⟨#[]⟩, [], []⟩ : Dv) pe7 be7) := HPk.out.bl hbA
      have HrA : Hid (Row (we7.alloc (.cells #[.string xe2, .string xe4, .string xe6] 46)) (w.heap.size + 2) #[(.slice a l.length c), x1, x2, .string ⟨#[]⟩, .string ⟨#[]⟩, x5, x6] 27) := r.alloc _
      have HlA : Hid (OutL (w.heap.size + 2) (w.heap.size + 1) (we7.alloc (.cells #[.string xe2, .string xe4, .string xe6] 46)) (.slice a l.length c) l ∧ InL (w.heap.size + 2) (w.heap.size + 1) (we7.alloc (.cells #[.string xe2, .string xe4, .string xe6] 46)) x1 [] ∧ StrL (w.heap.size + 2) (w.heap.size + 1) (we7.alloc (.cells #[.string xe2, .string xe4, .string xe6] 46)) x2 [] ∧ StrL (w.heap.size + 2) (w.heap.size + 1) (we7.alloc (.cells #[.string xe2, .string xe4, .string xe6] 46)) x5 [] ∧ PairL (w.heap.size + 2) (w.heap.size + 1) (we7.alloc (.cells #[.string xe2, .string xe4, .string xe6] 46)) x6 []) := ⟨l0.gr (Gr.of hbA) (by omega), l1.gr (Gr.of hbA) (by omega), l2.gr (Gr.of hbA) (by omega), l5.gr (Gr.of hbA) (by omega), l6.gr (Gr.of hbA) (by omega)⟩
      have HSA : Hid (SlAt (we7.alloc (.cells #[.string xe2, .string xe4, .string xe6] 46)) (.slice (some ⟨we7.heap.size, 0, none⟩) 1 1) 1 [.string xe2, .string xe4, .string xe6]) := slat_new we7 [.string xe2, .string xe4, .string xe6] 46 1 (by decide)
      obtain ⟨C, hoA, hcA⟩ := HlA.out.1
      have HOA : Hid _ := hoA
      have HCA : Hid _ := hcA
      have hszA : w.heap.size + 2 ≤ (we7.alloc (.cells #[.string xe2, .string xe4, .string xe6] 46)).heap.size := Nat.le_of_lt HrA.out.lt
      have HLc : Hid (Lc outE s pm bm (l ++ [(xe2, xe4, xe6)]) pe7 be7) := HNx.out _ _ _ HOE.out
      have HLt : Hid (be7 = false → p2 < pe7) := fun e => by
        have hE := HOE.out
        rw [e] at hE
        have := Oc.lt out_head hE HPa.out.rd.le HR.out.le
        omega
      clear r l0 l1 l2 l5 l6 hoA hcA HG
      go_wp2_with (first
        | refine wpList_load_row rfl 46 _ rfl w2.heap.size rfl 46 #[.string xe2, .string xe4, .string xe6] (0, 0) _ HW.out Tryd.underlying46 rfl size_output ?_
        | refine ap_sl rfl _ _ 22 rfl 46 _ 3 48 Tryd.underlying22 info_out rfl (by decide) (by decide) (w.heap.size + 2) _ l.length C rfl HOA.out _ 1 [.string xe2, .string xe4, .string xe6] rfl HSA.out rfl (fun u hu => by simp at hu; rcases hu with rfl | rfl | rfl <;> rfl) (by have := HLen.out; omega) hszA ?_)
      intro v5 w5 ho5 hg5
      have HX5 : Hid (OutL (w.heap.size + 2) (w.heap.size + 1) w5 v5 (l ++ [(xe2, xe4, xe6)])) := ⟨C ++ [.string xe2, .string xe4, .string xe6], by rw [List.length_append]; exact ho5, OutC.snoc (x := (xe2, xe4, xe6)) (OutC.own HCA.out HOA.out hg5)⟩
      obtain ⟨a9, c9, rfl⟩ := HX5.out.shape
      have rg := row_grownO HrA.out HOA.out hg5 (by decide)
      have cg := (rg.cell 0).trans (rfl : _ = some (Value.slice a l.length c))
      have zg := rg.frozen 0
      have HP5 : Hid (Ps w (w5.setCell ⟨w.heap.size + 2, 0, none⟩ (.slice a9 (l.length + 1) c9)) s (⟨(l ++ [(xe2, xe4, xe6)]), [], [], ⟨#[]⟩, ⟨#[]⟩, [], []⟩ : Dv) pe7 be7) := by
        have q := Ps.appOut (d := (⟨l, [], [], ⟨#[]⟩, ⟨#[]⟩, [], []⟩ : Dv)) (x := (xe2, xe4, xe6)) HPA.out.bel HPA.out.res HPA.out.rd HrA.out HlA.out.2.1 HlA.out.2.2.1 HlA.out.2.2.2.1 HlA.out.2.2.2.2 HOA.out hg5 HX5.out
        rw [show (l ++ [(xe2, xe4, xe6)]).length = l.length + 1 by rw [List.length_append, List.length_singleton]] at q
        exact q
      have HM5 : Hid (leftR s (w.heap.size + 1) (w5.setCell ⟨w.heap.size + 2, 0, none⟩ (.slice a9 (l.length + 1) c9)) < leftR s (w.heap.size + 1) wr) := leftR_lt HPr.out.rd HP5.out.rd HLt.out
      have HLl5 : Hid ((be7 = false → (l ++ [(xe2, xe4, xe6)]).length ≤ pe7) ∧ (l ++ [(xe2, xe4, xe6)]).length ≤ s.size + 1) := by
        have h1 := HLl.out.1 trivial
        have h2 := HPr.out.rd.le
        rw [List.length_append, List.length_singleton]
        exact ⟨fun e => by have := HLt.out e; omega, by omega⟩
      clear ho5 rg hg5 HOA HCA HrA HlA HSA HPA HPk HPa hrun hszA HNx HPr HW HR HOE HOe ck
      go_wp2
      go_roundw
      case rel => exact ⟨l ++ [(xe2, xe4, xe6)], pe7, be7, HP5, HLc, HLl5⟩
      case measure => exact HM5.out
end Go.Proofs.YtmpgfepkdhjibaaDoor
