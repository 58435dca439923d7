/- My own work: the walks of the document's rises and Right. -/
import Derived.Test.YtmpgfepkdhjibaaDoorSame8
import Derived.Test.YtmpgfepkdhjibaaDoorSortM
namespace Go.Proofs.YtmpgfepkdhjibaaDoor
open Go.RowKit

theorem right3 (d : Dv) (h : 1024 < longN d) : rightE d = 3 := by unfold rightE; rw [if_pos h]
theorem right10 (d : Dv) (h : ¬ 1024 < longN d) (h2 : d.outs.length = 0 ∨ allRiseB d = false ∨ ∃ x ∈ d.ins, x.2.length = 0) : rightE d = 10 := by
  unfold rightE
  rw [if_neg h]
  by_cases h3 : d.outs.length = 0 ∨ allRiseB d = false
  · rw [if_pos h3]
  · rw [if_neg h3]
    rcases h2 with h2 | h2 | ⟨x, hx, h0⟩
    · exact absurd (.inl h2) h3
    · exact absurd (.inr h2) h3
    · rw [if_pos]
      rw [List.any_eq_true]
      exact ⟨x, hx, by simp [h0]⟩
theorem right0 (d : Dv) (h : ¬ 1024 < longN d) (h1 : d.outs.length ≠ 0) (h2 : allRiseB d = true) (h3 : ∀ x ∈ d.ins, x.2.length ≠ 0) : rightE d = 0 := by
  unfold rightE
  rw [if_neg h, if_neg (by rintro (h | h); exact h1 h; rw [h2] at h; cases h), if_neg]
  rw [List.any_eq_true]
  rintro ⟨x, hx, h0⟩
  exact h3 x hx (by simpa using h0)
set_option maxRecDepth 20000 in
set_option maxHeartbeats 2000000 in
theorem rrises_ok (l : List ByteArray) (v : Value) (w : World) (h : SlAt w v l.length (strV l)) : Calls Tryd.prog 23 #[v] w fun e w' => e = .returned (.bool (risesB l)) ∧ Below w.heap.size w w' := by
  obtain ⟨a, c, b, off, rfl, hc1, hc2, hat, hcell⟩ := h.cells1
  have HC : Hid _ := hcell
  have hl0 : l.length = 0 ∨ a = some ⟨b, off, none⟩ := by
    by_cases hl : l.length = 0
    · exact .inl hl
    · exact .inr (hat (by omega))
  clear h hcell hat
  go_enter Tryd.func23, Tryd.ntmps23
  go_wp2
  go_loopw [3] (fun iv wx => ∃ (i : Nat), iv = .int .i64 i ∧ 0 < i ∧ i ≤ l.length + 1 ∧ Hid (∀ j, 0 < j → j < i → j < l.length → leB (l.getD j ⟨#[]⟩) (l.getD (j - 1) ⟨#[]⟩) = false) ∧ Hid (Below w.heap.size w wx)) (fun iv _ => l.length - (intOf iv).toNat)
  case atStart => exact ⟨1, rfl, by omega, by omega, fun j h1 h2 _ => by omega, Below.refl _ _⟩
  case round =>
    obtain ⟨i, rfl, hi0, hi1, HO, HB⟩ := hrel
    by_cases hlt : i < l.length
    · have hlt' : (i : Int) < (l.length : Int) := by omega
      obtain rfl := hl0.resolve_left (by omega)
      obtain ⟨m, hm0⟩ : ∃ m, m = i - 1 := ⟨_, rfl⟩
      have hm : (i : Int) - 1 = (m : Int) := by omega
      have hlm : m < l.length := by omega
      have hlm' : (m : Int) < (l.length : Int) := by omega
      have hwm : IntKind.i64.wrap (m : Int) = m := by rw [IntKind.wrap_i64]; omega
      have HM0 : Hid (m = i - 1) := hm0
      clear hm0
      have hBd : Below w.heap.size w wr.drew := HB.out.drew
      obtain ⟨s, hs⟩ : ∃ s, s = l.getD i ⟨#[]⟩ := ⟨_, rfl⟩
      obtain ⟨s', hs'⟩ : ∃ s, s = l.getD m ⟨#[]⟩ := ⟨_, rfl⟩
      have K : Hid (∀ wx, Below w.heap.size w wx → wx.cell? ⟨b, off + i, none⟩ = some (.string s) ∧ wx.cell? ⟨b, off + m, none⟩ = some (.string s')) := fun wx hb => by
        have h1 := HC.out wx hb i hlt
        have h2 := HC.out wx hb m hlm
        have e1 : l.getD i ⟨#[]⟩ = l[i] := by simp [List.getD, hlt]
        have e2 : l.getD m ⟨#[]⟩ = l[m] := by simp [List.getD, hlm]
        rw [hs, hs', e1, e2]
        exact ⟨h1, h2⟩
      go_wp2_with fail
      refine wp_region_mix [false, false, false, false, false, false, false, false, false, false] (fun wx => Below w.heap.size w wx) (by kernel_rfl) (by kernel_rfl) hBd ?_
      refine m_move _ rfl (by rfl) ?_
      simp only [Act.put, List.setIfInBounds_toArray, List.set_cons_zero, List.set_cons_succ]
      refine m_move _ rfl (by rfl) ?_
      simp only [Act.put, List.setIfInBounds_toArray, List.set_cons_zero, List.set_cons_succ]
      refine m_value ?_ (by rfl) (fun w hw => ?_) ?_
      rotate_left
      · go_simp
        with_reducible rfl
      simp only [Act.put, List.setIfInBounds_toArray, List.set_cons_zero, List.set_cons_succ]
      refine m_value ?_ (by rfl) (fun w hw => ?_) ?_
      rotate_left
      · obtain ⟨k1, k2⟩ := K.out _ hw
        go_simp
        with_reducible rfl
      simp only [Act.put, List.setIfInBounds_toArray, List.set_cons_zero, List.set_cons_succ]
      refine m_move _ rfl (by rfl) ?_
      simp only [Act.put, List.setIfInBounds_toArray, List.set_cons_zero, List.set_cons_succ]
      refine m_move _ rfl (by rfl) ?_
      simp only [Act.put, List.setIfInBounds_toArray, List.set_cons_zero, List.set_cons_succ]
      refine m_value ?_ (by rfl) (fun w hw => ?_) ?_
      rotate_left
      · go_simp
        with_reducible rfl
      simp only [Act.put, List.setIfInBounds_toArray, List.set_cons_zero, List.set_cons_succ]
      refine m_value ?_ (by rfl) (fun w hw => ?_) ?_
      rotate_left
      · go_simp
        with_reducible rfl
      simp only [Act.put, List.setIfInBounds_toArray, List.set_cons_zero, List.set_cons_succ]
      refine m_value ?_ (by rfl) (fun w hw => ?_) ?_
      rotate_left
      · obtain ⟨k1, k2⟩ := K.out _ hw
        go_simp
        with_reducible rfl
      simp only [Act.put, List.setIfInBounds_toArray, List.set_cons_zero, List.set_cons_succ]
      refine m_value (.bool (leB s s')) (by rfl) (fun w hw => ?_) ?_
      · go_simp
        rfl
      simp only [Act.put, List.setIfInBounds_toArray, List.set_cons_zero, List.set_cons_succ]
      refine m_done ?_
      try simp only [Exit.then]
      have HB3 : Hid _ := hBd
      clear hBd K
      obtain ⟨q, hq⟩ : ∃ q, q = leB s s' := ⟨_, rfl⟩
      rw [← hq]
      rw [hs, hs', HM0.out] at hq
      clear HM0 hs hs'
      cases q with
      | true =>
        have HR : Hid (risesB l = false) := risesB_no _ i hi0 hlt hq.symm
        clear hq
        go_wp2
        go_ret
        exact ⟨by rw [HR.out]; rfl, HB3.out⟩
      | false =>
        have HO2 : Hid (∀ j, 0 < j → j < i + 1 → j < l.length → leB (l.getD j ⟨#[]⟩) (l.getD (j - 1) ⟨#[]⟩) = false) := fun j h1 h2 h3 => by
          by_cases e : j = i
          · subst e; exact hq.symm
          · exact HO.out j h1 (by omega) h3
        clear hq HO
        go_wp2
        go_roundw
        case rel => exact ⟨i + 1, by go_num, by omega, by omega, HO2, HB3⟩
        case measure => simp [intOf]; omega
    · have hlt' : ¬ (i : Int) < (l.length : Int) := by omega
      have HR : Hid (risesB l = true) := risesB_yes _ (fun j h1 h2 => HO.out j h1 (by omega) h2)
      go_wp2
      go_ret
      exact ⟨by rw [HR.out]; rfl, HB.out⟩
set_option maxRecDepth 20000 in
set_option maxHeartbeats 4000000 in
theorem rright_big (d : Dv) (cs : Array Value) (w : World) (h : DrvAt w d cs) (hb : 1024 < d.outs.length ∨ 1024 < d.ins.length ∨ 1024 < d.srcs.length ∨ 1024 < d.args.length ∨ 1024 < d.env.length) : Calls Tryd.prog 12 #[.agg cs] w fun e w' => e = .returned (.int .i64 3) ∧ Below w.heap.size w w' := by
  obtain ⟨vo, vi, vs, va, ve, rfl, ho, hi, hs, ha, he⟩ := h.ex
  obtain ⟨oa, oc, bo, fo, rfl, o1, o2, o3, o4⟩ := ho.cells3
  obtain ⟨sa, sc, rfl, s1, s2⟩ := hs.shape
  obtain ⟨aa, ac, rfl, a1, a2⟩ := ha.shape
  obtain ⟨ea, ec, be, fe, rfl, e1, e2, e3, e4⟩ := he.cells2
  obtain ⟨ns, ia, ic, bi, fi, hns, hsl, rfl, i1, i2, i3, hin⟩ := hi.cells
  have HO : Hid _ := o4
  have HSr : Hid (SlAt w (.slice sa d.srcs.length sc) d.srcs.length (strV d.srcs)) := hs
  have HE : Hid _ := e4
  have HI : Hid _ := hin
  clear ho hi hs ha he o4 e4 hin hsl h
  have HB : Hid (Below w.heap.size w (w.alloc (.cells #[.slice oa d.outs.length oc, .slice ia d.ins.length ic, .slice sa d.srcs.length sc, .string d.sys, .string d.bld, .slice aa d.args.length ac, .slice ea d.env.length ec] 27))) := below_new (Below.refl _ _) _
  clear o3 i3 e3
  by_cases g0 : 1024 < d.outs.length
  · have d0 : decide ((1024 : Int) < (d.outs.length : Int)) = true := decide_eq_true (by omega)
    clear hb
    go_enter Tryd.func12, Tryd.ntmps12
    go_wp2
    go_ret
    exact ⟨rfl, HB.out⟩
  have d0 : decide ((1024 : Int) < (d.outs.length : Int)) = false := decide_eq_false (by omega)
  by_cases g1 : 1024 < d.ins.length
  · have d1 : decide ((1024 : Int) < (d.ins.length : Int)) = true := decide_eq_true (by omega)
    clear hb
    go_enter Tryd.func12, Tryd.ntmps12
    go_wp2
    go_ret
    exact ⟨rfl, HB.out⟩
  have d1 : decide ((1024 : Int) < (d.ins.length : Int)) = false := decide_eq_false (by omega)
  by_cases g2 : 1024 < d.srcs.length
  · have d2 : decide ((1024 : Int) < (d.srcs.length : Int)) = true := decide_eq_true (by omega)
    clear hb
    go_enter Tryd.func12, Tryd.ntmps12
    go_wp2
    go_ret
    exact ⟨rfl, HB.out⟩
  have d2 : decide ((1024 : Int) < (d.srcs.length : Int)) = false := decide_eq_false (by omega)
  by_cases g3 : 1024 < d.args.length
  · have d3 : decide ((1024 : Int) < (d.args.length : Int)) = true := decide_eq_true (by omega)
    clear hb
    go_enter Tryd.func12, Tryd.ntmps12
    go_wp2
    go_ret
    exact ⟨rfl, HB.out⟩
  have d3 : decide ((1024 : Int) < (d.args.length : Int)) = false := decide_eq_false (by omega)
  by_cases g4 : 1024 < d.env.length
  · have d4 : decide ((1024 : Int) < (d.env.length : Int)) = true := decide_eq_true (by omega)
    clear hb
    go_enter Tryd.func12, Tryd.ntmps12
    go_wp2
    go_ret
    exact ⟨rfl, HB.out⟩
  have d4 : decide ((1024 : Int) < (d.env.length : Int)) = false := decide_eq_false (by omega)
  omega
set_option maxRecDepth 20000 in
set_option maxHeartbeats 16000000 in
theorem rright_small (d : Dv) (cs : Array Value) (w : World) (h : DrvAt w d cs) (g0 : d.outs.length ≤ 1024) (g1 : d.ins.length ≤ 1024) (g2 : d.srcs.length ≤ 1024) (g3 : d.args.length ≤ 1024) (g4 : d.env.length ≤ 1024) : Calls Tryd.prog 12 #[.agg cs] w fun e w' => e = .returned (.int .i64 (rightE d)) ∧ Below w.heap.size w w' := by
  obtain ⟨vo, vi, vs, va, ve, rfl, ho, hi, hs, ha, he⟩ := h.ex
  obtain ⟨oa, oc, bo, fo, rfl, o1, o2, o3, o4⟩ := ho.cells3
  obtain ⟨sa, sc, rfl, s1, s2⟩ := hs.shape
  obtain ⟨aa, ac, rfl, a1, a2⟩ := ha.shape
  obtain ⟨ea, ec, be, fe, rfl, e1, e2, e3, e4⟩ := he.cells2
  obtain ⟨ns, ia, ic, bi, fi, hns, hsl, rfl, i1, i2, i3, hin⟩ := hi.cells
  have HO : Hid _ := o4
  have HSr : Hid (SlAt w (.slice sa d.srcs.length sc) d.srcs.length (strV d.srcs)) := hs
  have HE : Hid _ := e4
  have HI : Hid _ := hin
  clear ho hi hs ha he o4 e4 hin hsl h
  have hb0 : Below w.heap.size w (w.alloc (.cells #[.slice oa d.outs.length oc, .slice ia d.ins.length ic, .slice sa d.srcs.length sc, .string d.sys, .string d.bld, .slice aa d.args.length ac, .slice ea d.env.length ec] 27)) := below_new (Below.refl _ _) _
  have hr0 : Row (w.alloc (.cells #[.slice oa d.outs.length oc, .slice ia d.ins.length ic, .slice sa d.srcs.length sc, .string d.sys, .string d.bld, .slice aa d.args.length ac, .slice ea d.env.length ec] 27)) w.heap.size #[.slice oa d.outs.length oc, .slice ia d.ins.length ic, .slice sa d.srcs.length sc, .string d.sys, .string d.bld, .slice aa d.args.length ac, .slice ea d.env.length ec] 27 := Row.new w _ _
  have oo : d.outs.length = 0 ∨ oa = some ⟨bo, fo, none⟩ := by
    by_cases hl : d.outs.length = 0
    · exact .inl hl
    · exact .inr (o3 (by omega))
  have ii : d.ins.length = 0 ∨ ia = some ⟨bi, fi, none⟩ := by
    by_cases hl : d.ins.length = 0
    · exact .inl hl
    · exact .inr (i3 (by omega))
  have ee : d.env.length = 0 ∨ ea = some ⟨be, fe, none⟩ := by
    by_cases hl : d.env.length = 0
    · exact .inl hl
    · exact .inr (e3 (by omega))
  have HB0 : Hid _ := hb0
  have HR0 : Hid _ := hr0
  clear o3 i3 e3 hb0 hr0
  have d0 : decide ((1024 : Int) < (d.outs.length : Int)) = false := decide_eq_false (by omega)
  have d1 : decide ((1024 : Int) < (d.ins.length : Int)) = false := decide_eq_false (by omega)
  have d2 : decide ((1024 : Int) < (d.srcs.length : Int)) = false := decide_eq_false (by omega)
  have d3 : decide ((1024 : Int) < (d.args.length : Int)) = false := decide_eq_false (by omega)
  have d4 : decide ((1024 : Int) < (d.env.length : Int)) = false := decide_eq_false (by omega)
  go_enter Tryd.func12, Tryd.ntmps12
  go_wp2
  clear d0 d1 d2 d3 d4
  go_loopw [3] (fun iv wx => ∃ (i : Nat), iv = .int .i64 i ∧ i ≤ d.ins.length ∧ Hid (∀ x ∈ d.ins.take i, x.2.length ≤ 1024) ∧ Hid (Below w.heap.size w wx) ∧ Hid (Row wx w.heap.size #[.slice oa d.outs.length oc, .slice ia d.ins.length ic, .slice sa d.srcs.length sc, .string d.sys, .string d.bld, .slice aa d.args.length ac, .slice ea d.env.length ec] 27)) (fun iv _ => d.ins.length - (intOf iv).toNat)
  case atStart => exact ⟨0, rfl, by omega, fun x hx => by simp at hx, HB0, HR0⟩
  case round =>
    clear HB0 HR0
    obtain ⟨i, rfl, hi1, HN, HB, HR⟩ := hrel
    have r1 := (HR.out.cell 1).trans (rfl : _ = some (Value.slice ia d.ins.length ic))
    by_cases hlt : i < d.ins.length
    · have hlt' : (i : Int) < (d.ins.length : Int) := by omega
      obtain rfl := ii.resolve_left (by omega)
      obtain ⟨n, k0, k1, hn⟩ := HI.out wr HB.out i hlt
      obtain ⟨na, nc, rfl, n1, n2⟩ := hn.shape
      clear hn
      by_cases hgt : 1024 < d.ins[i].2.length
      · have hgt' : (1024 : Int) < (d.ins[i].2.length : Int) := by omega
        have HE3 : Hid (rightE d = 3) := right3 d (by
          have h1 : ¬ longN d ≤ 1024 := fun hle => by
            have := ((longI_le 1024 d.ins _).1 hle).2 _ (List.getElem_mem hlt)
            omega
          omega)
        go_wp2
        go_ret
        exact ⟨by rw [HE3.out]; rfl, HB.out⟩
      · have hgt' : ¬ (1024 : Int) < (d.ins[i].2.length : Int) := by omega
        have HN2 : Hid (∀ x ∈ d.ins.take (i + 1), x.2.length ≤ 1024) := fun x hx => by
          rw [List.take_succ_eq_append_getElem hlt] at hx
          rcases List.mem_append.1 hx with hx | hx
          · exact HN.out x hx
          · simp at hx
            subst hx
            omega
        clear HN hgt
        go_wp2
        go_roundw
        case rel => exact ⟨i + 1, by go_num, by omega, HN2, HB, HR⟩
        case measure => simp [intOf]; omega
    · have hlt' : ¬ (i : Int) < (d.ins.length : Int) := by omega
      have HL : Hid (¬ 1024 < longN d) := by
        have h1 : ∀ x ∈ d.ins, x.2.length ≤ 1024 := fun x hx => HN.out x (by rw [List.take_of_length_le (by omega)]; exact hx)
        have := (longI_le 1024 d.ins (max (max (max (max d.outs.length d.ins.length) d.srcs.length) d.args.length) d.env.length)).2 ⟨by omega, h1⟩
        exact Nat.not_lt.2 this
      clear HN
      obtain ⟨wE, rfl⟩ : ∃ x, x = wr := ⟨wr, rfl⟩
      have HBE : Hid _ := HB
      have HRE : Hid _ := HR
      go_wp2
      clear r1 hlt hlt' hi1
      go_loopw [4, 7] (fun lv iv wx => ∃ (i : Nat) (p : Option Addr) (c : Nat), lv = .slice p i c ∧ iv = .int .i64 i ∧ i ≤ d.outs.length ∧ Hid (wx.ownsRow wE.heap.size 9 1 (.slice p i c) i (strV ((d.outs.map (·.1)).take i))) ∧ Hid (Below wE.heap.size wE wx)) (fun _ iv _ => d.outs.length - (intOf iv).toNat)
      case atStart => exact ⟨0, none, 0, rfl, rfl, by omega, World.ownsRow_nil _ _ _ _, Below.refl _ _⟩
      case round =>
        obtain ⟨i, p, c, rfl, rfl, hi1, HW, HB⟩ := hrel
        have HBw : Hid (Below w.heap.size w wr) := below_next HBE.out HB.out
        have hRw : Row wr w.heap.size #[.slice oa d.outs.length oc, .slice ia d.ins.length ic, .slice sa d.srcs.length sc, .string d.sys, .string d.bld, .slice aa d.args.length ac, .slice ea d.env.length ec] 27 := Row.below HRE.out HB.out (Row.lt HRE.out)
        have rr := (hRw.cell 0).trans (rfl : _ = some (Value.slice oa d.outs.length oc))
        by_cases hlt : i < d.outs.length
        · have hlt' : (i : Int) < (d.outs.length : Int) := by omega
          obtain rfl := oo.resolve_left (by omega)
          have k0 := (HO.out wr HBw.out i hlt).1
          obtain ⟨s, hs⟩ : ∃ s, s = d.outs[i].1 := ⟨_, rfl⟩
          rw [← hs] at k0
          have HSs : Hid _ := hs
          clear hs
          have f4 := run_one_str wr s
          have hsz : wE.heap.size ≤ wr.heap.size := HB.out.size
          have hbA : Below wr.heap.size wr (wr.alloc (.cells #[.string s] 9)) := below_new (Below.refl _ _) _
          have hslA : SlAt (wr.alloc (.cells #[.string s] 9)) (.slice (some ⟨wr.heap.size, 0, none⟩) 1 1) 1 [.string s] := slat_new wr [.string s] 9 1 (by omega)
          have hoA := own_below HW.out hbA
          have HBA : Hid (Below wE.heap.size wE (wr.alloc (.cells #[.string s] 9))) := below_next HB.out hbA
          have hszA : wE.heap.size ≤ (wr.alloc (.cells #[.string s] 9)).heap.size := HBA.out.size
          have HS : Hid (strV ((d.outs.map (·.1)).take (i + 1)) = strV ((d.outs.map (·.1)).take i) ++ [.string s]) := by
            show _ = _
            rw [List.take_succ_eq_append_getElem (by simpa using hlt), List.getElem_map]
            unfold strV
            rw [List.map_append, HSs.out]
            rfl
          clear HW HB hbA hRw
          go_wp2_with (refine ap_sl rfl _ _ 24 rfl 9 _ 1 16 Tryd.underlying24 info_str rfl (by omega) (by omega) wE.heap.size _ i _ rfl hoA _ 1 [.string s] rfl hslA rfl (fun u hu => by simp at hu; subst hu; rfl) (by omega) hszA ?_)
          intro v5 w5 ho5 hg5
          have ho6 : w5.ownsRow wE.heap.size 9 1 v5 (i + 1) (strV ((d.outs.map (·.1)).take (i + 1))) := by rw [HS.out]; exact ho5
          obtain ⟨p', c', rfl⟩ := own_shape ho6
          have HB5 : Hid (Below wE.heap.size wE w5) := HBA.out.trans (own_grown hoA (Below.refl _ _) hszA hg5)
          have HW5 : Hid (w5.ownsRow wE.heap.size 9 1 (.slice p' (i + 1) c') (i + 1) (strV ((d.outs.map (·.1)).take (i + 1)))) := ho6
          clear ho5 ho6 hg5 hoA hslA HBA HS f4
          clear HSs k0 rr
          go_wp2
          go_roundw
          case rel => exact ⟨i + 1, p', c', rfl, by go_num, by omega, HW5, HB5⟩
          case measure => simp [intOf]; omega
        · have hlt' : ¬ (i : Int) < (d.outs.length : Int) := by omega
          have HNm : Hid (∀ wx, Below wr.heap.size wr wx → SlAt wx (.slice p i c) (d.outs.map (·.1)).length (strV (d.outs.map (·.1)))) := fun wx hb => by
            have := SlAt.of HW.out
            rw [List.take_of_length_le (by simp; omega)] at this
            have e : i = (d.outs.map (·.1)).length := by simp; omega
            rw [← e]
            exact this.keep hb
          obtain ⟨wf, rfl⟩ : ∃ x, x = wr := ⟨wr, rfl⟩
          obtain ⟨p4, rfl⟩ : ∃ x, x = p := ⟨_, rfl⟩
          obtain ⟨c4, rfl⟩ : ∃ x, x = c := ⟨_, rfl⟩
          obtain ⟨n4, rfl⟩ : ∃ x, x = i := ⟨_, rfl⟩
          have HIN4 : Hid (n4 = d.outs.length) := by show _ = _; omega
          have HBf : Hid (Below w.heap.size w wf) := HBw
          have HRf : Hid (Row wf w.heap.size #[.slice oa d.outs.length oc, .slice ia d.ins.length ic, .slice sa d.srcs.length sc, .string d.sys, .string d.bld, .slice aa d.args.length ac, .slice ea d.env.length ec] 27) := hRw
          clear HW HB HBw hRw
          go_wp2
          clear rr hlt hlt' hi1
          go_loopw [5, 8] (fun lv iv wx => ∃ (i : Nat) (p : Option Addr) (c : Nat), lv = .slice p i c ∧ iv = .int .i64 i ∧ i ≤ d.ins.length ∧ Hid (wx.ownsRow wf.heap.size 9 1 (.slice p i c) i (strV ((d.ins.map (·.1)).take i))) ∧ Hid (Below wf.heap.size wf wx) ∧ Hid (∀ x ∈ d.ins.take i, x.2.length ≠ 0 ∧ risesB x.2 = true)) (fun _ iv _ => d.ins.length - (intOf iv).toNat)
          case atStart => exact ⟨0, none, 0, rfl, rfl, by omega, World.ownsRow_nil _ _ _ _, Below.refl _ _, fun x hx => by simp at hx⟩
          case round =>
            obtain ⟨i, p, c, rfl, rfl, hi1, HW, HB, HA⟩ := hrel
            have HBw : Hid (Below w.heap.size w wr) := below_next HBf.out HB.out
            have hRw : Row wr w.heap.size #[.slice oa d.outs.length oc, .slice ia d.ins.length ic, .slice sa d.srcs.length sc, .string d.sys, .string d.bld, .slice aa d.args.length ac, .slice ea d.env.length ec] 27 := Row.below HRf.out HB.out (Row.lt HRf.out)
            have rr := (hRw.cell 1).trans (rfl : _ = some (Value.slice ia d.ins.length ic))
            by_cases hlt : i < d.ins.length
            · have hlt' : (i : Int) < (d.ins.length : Int) := by omega
              obtain rfl := ii.resolve_left (by omega)
              obtain ⟨n, k0, k1, hn⟩ := HI.out wr HBw.out i hlt
              obtain ⟨s, hs⟩ : ∃ s, s = d.ins[i].1 := ⟨_, rfl⟩
              rw [← hs] at k0
              have HSs : Hid _ := hs
              clear hs
              have f4 := run_one_str wr s
              have hsz : wf.heap.size ≤ wr.heap.size := HB.out.size
              have hbA : Below wr.heap.size wr (wr.alloc (.cells #[.string s] 9)) := below_new (Below.refl _ _) _
              have hslA : SlAt (wr.alloc (.cells #[.string s] 9)) (.slice (some ⟨wr.heap.size, 0, none⟩) 1 1) 1 [.string s] := slat_new wr [.string s] 9 1 (by omega)
              have hoA := own_below HW.out hbA
              have HBA : Hid (Below wf.heap.size wf (wr.alloc (.cells #[.string s] 9))) := below_next HB.out hbA
              have hszA : wf.heap.size ≤ (wr.alloc (.cells #[.string s] 9)).heap.size := HBA.out.size
              have HS : Hid (strV ((d.ins.map (·.1)).take (i + 1)) = strV ((d.ins.map (·.1)).take i) ++ [.string s]) := by
                show _ = _
                rw [List.take_succ_eq_append_getElem (by simpa using hlt), List.getElem_map]
                unfold strV
                rw [List.map_append, HSs.out]
                rfl
              clear HW HB hbA hRw
              go_wp2_with (refine ap_sl rfl _ _ 24 rfl 9 _ 1 16 Tryd.underlying24 info_str rfl (by omega) (by omega) wf.heap.size _ i _ rfl hoA _ 1 [.string s] rfl hslA rfl (fun u hu => by simp at hu; subst hu; rfl) (by omega) hszA ?_)
              intro v5 w5 ho5 hg5
              have ho6 : w5.ownsRow wf.heap.size 9 1 v5 (i + 1) (strV ((d.ins.map (·.1)).take (i + 1))) := by rw [HS.out]; exact ho5
              obtain ⟨p', c', rfl⟩ := own_shape ho6
              have HB5 : Hid (Below wf.heap.size wf w5) := HBA.out.trans (own_grown hoA (Below.refl _ _) hszA hg5)
              have HW5 : Hid (w5.ownsRow wf.heap.size 9 1 (.slice p' (i + 1) c') (i + 1) (strV ((d.ins.map (·.1)).take (i + 1)))) := ho6
              clear ho5 ho6 hg5 hoA hslA HBA HS f4
              have HBw5 : Hid (Below w.heap.size w w5) := below_next HBf.out HB5.out
              have hR5 : Row w5 w.heap.size #[.slice oa d.outs.length oc, .slice (some ⟨bi, fi, none⟩) d.ins.length ic, .slice sa d.srcs.length sc, .string d.sys, .string d.bld, .slice aa d.args.length ac, .slice ea d.env.length ec] 27 := Row.below HRf.out HB5.out (Row.lt HRf.out)
              have r5 := (hR5.cell 1).trans (rfl : _ = some (Value.slice (some ⟨bi, fi, none⟩) d.ins.length ic))
              obtain ⟨n', j0, j1, hn'⟩ := HI.out w5 HBw5.out i hlt
              have HRS := rrises_ok d.ins[i].2 n' w5 hn'
              obtain ⟨na, nc, rfl, n1, n2⟩ := hn'.shape
              clear hn' hR5 HSs k0 rr hn k1
              by_cases h0 : d.ins[i].2.length = 0
              · have b0 : ((d.ins[i].2.length : Int) == 0) = true := by simp [h0]
                have HE10 : Hid (rightE d = 10) := right10 d HL.out (.inr (.inr ⟨_, List.getElem_mem hlt, h0⟩))
                clear h0 HRS
                go_wp2
                go_ret
                exact ⟨by rw [HE10.out]; rfl, HBw5.out⟩
              have b0 : ((d.ins[i].2.length : Int) == 0) = false := by simp; intro e; exact h0 (by rw [e]; rfl)
              obtain ⟨q, hq⟩ : ∃ q, q = risesB d.ins[i].2 := ⟨_, rfl⟩
              rw [← hq] at HRS
              have H0 : Hid (d.ins[i].2.length ≠ 0) := h0
              clear h0
              go_wp2_with fail
              refine Calls.mono HRS ?_
              rintro e w6 ⟨rfl, hb6⟩
              have HB6 : Hid (Below wf.heap.size wf w6) := below_next HB5.out hb6
              have HW6 : Hid (w6.ownsRow wf.heap.size 9 1 (.slice p' (i + 1) c') (i + 1) (strV ((d.ins.map (·.1)).take (i + 1)))) := own_below HW5.out hb6
              have HBw6 : Hid (Below w.heap.size w w6) := below_next HBf.out HB6.out
              clear hb6 HRS HB5 HW5 HBw5 r5
              cases q with
              | false =>
                have HE10 : Hid (rightE d = 10) := right10 d HL.out (.inr (.inl (by
                  unfold allRiseB
                  have : d.ins.all (fun x => risesB x.2) = false := by
                    rw [List.all_eq_false]
                    exact ⟨d.ins[i], List.getElem_mem hlt, by rw [← hq]; simp⟩
                  rw [this]
                  rfl)))
                clear hq
                go_wp2
                go_ret
                exact ⟨by rw [HE10.out]; rfl, HBw6.out⟩
              | true =>
                have HA2 : Hid (∀ x ∈ d.ins.take (i + 1), x.2.length ≠ 0 ∧ risesB x.2 = true) := fun x hx => by
                  rw [List.take_succ_eq_append_getElem hlt] at hx
                  rcases List.mem_append.1 hx with hx | hx
                  · exact HA.out x hx
                  · simp at hx
                    subst hx
                    exact ⟨H0.out, hq.symm⟩
                clear hq HA H0 HBw6
                go_wp2
                go_roundw
                case rel => exact ⟨i + 1, p', c', rfl, by go_num, by omega, HW6, HB6, HA2⟩
                case measure => simp [intOf]; omega
            · have hlt' : ¬ (i : Int) < (d.ins.length : Int) := by omega
              have HPt : Hid (∀ wx, Below wr.heap.size wr wx → SlAt wx (.slice p i c) (d.ins.map (·.1)).length (strV (d.ins.map (·.1)))) := fun wx hb => by
                have := SlAt.of HW.out
                rw [List.take_of_length_le (by simp; omega)] at this
                have e : i = (d.ins.map (·.1)).length := by simp; omega
                rw [← e]
                exact this.keep hb
              have HA9 : Hid (∀ x ∈ d.ins, x.2.length ≠ 0 ∧ risesB x.2 = true) := fun x hx => HA.out x (by rw [List.take_of_length_le (by omega)]; exact hx)
              obtain ⟨wg, rfl⟩ : ∃ x, x = wr := ⟨wr, rfl⟩
              have HBg : Hid (Below wf.heap.size wf wg) := HB
              have HBgw : Hid (Below w.heap.size w wg) := HBw
              have HRg : Hid (Row wg w.heap.size #[.slice oa d.outs.length oc, .slice ia d.ins.length ic, .slice sa d.srcs.length sc, .string d.sys, .string d.bld, .slice aa d.args.length ac, .slice ea d.env.length ec] 27) := hRw
              obtain ⟨p5, rfl⟩ : ∃ x, x = p := ⟨_, rfl⟩
              obtain ⟨c5, rfl⟩ : ∃ x, x = c := ⟨_, rfl⟩
              obtain ⟨n5, rfl⟩ : ∃ x, x = i := ⟨_, rfl⟩
              clear HW HB HBw hRw HA
              go_wp2
              clear rr hlt hlt' hi1
              go_loopw [6, 9] (fun lv iv wx => ∃ (i : Nat) (p : Option Addr) (c : Nat), lv = .slice p i c ∧ iv = .int .i64 i ∧ i ≤ d.env.length ∧ Hid (wx.ownsRow wg.heap.size 9 1 (.slice p i c) i (strV ((d.env.map (·.1)).take i))) ∧ Hid (Below wg.heap.size wg wx)) (fun _ iv _ => d.env.length - (intOf iv).toNat)
              case atStart => exact ⟨0, none, 0, rfl, rfl, by omega, World.ownsRow_nil _ _ _ _, Below.refl _ _⟩
              case round =>
                obtain ⟨i, p, c, rfl, rfl, hi1, HW, HB⟩ := hrel
                have HBw : Hid (Below w.heap.size w wr) := below_next HBgw.out HB.out
                have hRw : Row wr w.heap.size #[.slice oa d.outs.length oc, .slice ia d.ins.length ic, .slice sa d.srcs.length sc, .string d.sys, .string d.bld, .slice aa d.args.length ac, .slice ea d.env.length ec] 27 := Row.below HRg.out HB.out (Row.lt HRg.out)
                have rr := (hRw.cell 6).trans (rfl : _ = some (Value.slice ea d.env.length ec))
                by_cases hlt : i < d.env.length
                · have hlt' : (i : Int) < (d.env.length : Int) := by omega
                  obtain rfl := ee.resolve_left (by omega)
                  have k0 := (HE.out wr HBw.out i hlt).1
                  obtain ⟨s, hs⟩ : ∃ s, s = d.env[i].1 := ⟨_, rfl⟩
                  rw [← hs] at k0
                  have HSs : Hid _ := hs
                  clear hs
                  have f4 := run_one_str wr s
                  have hsz : wg.heap.size ≤ wr.heap.size := HB.out.size
                  have hbA : Below wr.heap.size wr (wr.alloc (.cells #[.string s] 9)) := below_new (Below.refl _ _) _
                  have hslA : SlAt (wr.alloc (.cells #[.string s] 9)) (.slice (some ⟨wr.heap.size, 0, none⟩) 1 1) 1 [.string s] := slat_new wr [.string s] 9 1 (by omega)
                  have hoA := own_below HW.out hbA
                  have HBA : Hid (Below wg.heap.size wg (wr.alloc (.cells #[.string s] 9))) := below_next HB.out hbA
                  have hszA : wg.heap.size ≤ (wr.alloc (.cells #[.string s] 9)).heap.size := HBA.out.size
                  have HS : Hid (strV ((d.env.map (·.1)).take (i + 1)) = strV ((d.env.map (·.1)).take i) ++ [.string s]) := by
                    show _ = _
                    rw [List.take_succ_eq_append_getElem (by simpa using hlt), List.getElem_map]
                    unfold strV
                    rw [List.map_append, HSs.out]
                    rfl
                  clear HW HB hbA hRw
                  go_wp2_with (refine ap_sl rfl _ _ 24 rfl 9 _ 1 16 Tryd.underlying24 info_str rfl (by omega) (by omega) wg.heap.size _ i _ rfl hoA _ 1 [.string s] rfl hslA rfl (fun u hu => by simp at hu; subst hu; rfl) (by omega) hszA ?_)
                  intro v5 w5 ho5 hg5
                  have ho6 : w5.ownsRow wg.heap.size 9 1 v5 (i + 1) (strV ((d.env.map (·.1)).take (i + 1))) := by rw [HS.out]; exact ho5
                  obtain ⟨p', c', rfl⟩ := own_shape ho6
                  have HB5 : Hid (Below wg.heap.size wg w5) := HBA.out.trans (own_grown hoA (Below.refl _ _) hszA hg5)
                  have HW5 : Hid (w5.ownsRow wg.heap.size 9 1 (.slice p' (i + 1) c') (i + 1) (strV ((d.env.map (·.1)).take (i + 1)))) := ho6
                  clear ho5 ho6 hg5 hoA hslA HBA HS f4
                  clear HSs k0 rr
                  go_wp2
                  go_roundw
                  case rel => exact ⟨i + 1, p', c', rfl, by go_num, by omega, HW5, HB5⟩
                  case measure => simp [intOf]; omega
                · have hlt' : ¬ (i : Int) < (d.env.length : Int) := by omega
                  have HKy : Hid (SlAt wr (.slice p i c) (d.env.map (·.1)).length (strV (d.env.map (·.1)))) := by
                    show SlAt _ _ _ _
                    have := SlAt.of HW.out
                    rw [List.take_of_length_le (by simp; omega)] at this
                    have e : i = (d.env.map (·.1)).length := by simp; omega
                    rw [← e]
                    exact this
                  have HNm5 := HNm.out wr (below_next HBg.out HB.out)
                  have HPt5 := HPt.out wr HB.out
                  have HS5 := HSr.out.keep HBw.out
                  have rs := (hRw.cell 2).trans (rfl : _ = some (Value.slice sa d.srcs.length sc))
                  have HRR : Hid (∀ wx, Below wr.heap.size wr wx → Row wx w.heap.size #[.slice oa d.outs.length oc, .slice ia d.ins.length ic, .slice sa d.srcs.length sc, .string d.sys, .string d.bld, .slice aa d.args.length ac, .slice ea d.env.length ec] 27) := fun wx hb => hRw.below hb hRw.lt
                  have HV : Hid (allRiseB d = (risesB (d.outs.map (·.1)) && risesB (d.ins.map (·.1)) && risesB d.srcs && risesB (d.env.map (·.1)))) := by
                    show _ = _
                    unfold allRiseB
                    have : d.ins.all (fun x => risesB x.2) = true := List.all_eq_true.2 (fun x hx => (HA9.out x hx).2)
                    rw [this, Bool.true_and]
                  have HR1 := rrises_ok _ _ wr HNm5
                  have HR2 : Hid (∀ wx, Below wr.heap.size wr wx → Calls Tryd.prog 23 #[.slice p5 n5 c5] wx fun e w' => e = .returned (.bool (risesB (d.ins.map (·.1)))) ∧ Below wx.heap.size wx w') := fun wx hb => rrises_ok _ _ wx (HPt5.keep hb)
                  have HR3 : Hid (∀ wx, Below wr.heap.size wr wx → Calls Tryd.prog 23 #[.slice sa d.srcs.length sc] wx fun e w' => e = .returned (.bool (risesB d.srcs)) ∧ Below wx.heap.size wx w') := fun wx hb => rrises_ok _ _ wx (HS5.keep hb)
                  have HR4 : Hid (∀ wx, Below wr.heap.size wr wx → Calls Tryd.prog 23 #[.slice p i c] wx fun e w' => e = .returned (.bool (risesB (d.env.map (·.1)))) ∧ Below wx.heap.size wx w') := fun wx hb => rrises_ok _ _ wx (HKy.out.keep hb)
                  have HN4 := HIN4.out
                  generalize risesB (d.outs.map (·.1)) = t0 at *
                  generalize risesB (d.ins.map (·.1)) = t1 at *
                  generalize risesB d.srcs = t2 at *
                  generalize risesB (d.env.map (·.1)) = t3 at *
                  clear HNm5 HPt5 HS5 HKy HW hRw
                  by_cases h0 : d.outs.length = 0
                  · have b0 : ((n4 : Int) == 0) = true := by rw [HN4, h0]; rfl
                    have HE10 : Hid (rightE d = 10) := right10 d HL.out (.inl h0)
                    clear h0 HN4
                    go_wp2
                    go_ret
                    exact ⟨by rw [HE10.out]; rfl, HBw.out⟩
                  have b0 : ((n4 : Int) == 0) = false := by rw [HN4]; simp; intro e; exact h0 (by rw [e]; rfl)
                  have H0 : Hid (d.outs.length ≠ 0) := h0
                  clear h0 HN4
                  go_wp2_with fail
                  refine Calls.mono HR1 ?_
                  rintro e y1 ⟨rfl, hy1⟩
                  have hz1 : Below wr.heap.size wr y1 := hy1
                  have HZ1 : Hid (Below w.heap.size w y1) := below_next HBw.out hz1
                  cases t0 with
                  | false =>
                    have HE10 : Hid (rightE d = 10) := right10 d HL.out (.inr (.inl (by rw [HV.out]; simp)))
                    clear hz1 hy1
                    go_wp2
                    go_ret
                    exact ⟨by rw [HE10.out]; rfl, HZ1.out⟩
                  | true =>
                    go_wp2_with fail
                    refine Calls.mono (HR2.out _ hz1) ?_
                    rintro e y2 ⟨rfl, hy2⟩
                    have hz2 : Below wr.heap.size wr y2 := below_next hz1 hy2
                    have HZ2 : Hid (Below w.heap.size w y2) := below_next HBw.out hz2
                    cases t1 with
                    | false =>
                      have HE10 : Hid (rightE d = 10) := right10 d HL.out (.inr (.inl (by rw [HV.out]; simp)))
                      clear hz2 hy2
                      go_wp2
                      go_ret
                      exact ⟨by rw [HE10.out]; rfl, HZ2.out⟩
                    | true =>
                      have rs2 := ((HRR.out _ hz2).cell 2).trans (rfl : _ = some (Value.slice sa d.srcs.length sc))
                      go_wp2_with fail
                      refine Calls.mono (HR3.out _ hz2) ?_
                      rintro e y3 ⟨rfl, hy3⟩
                      have hz3 : Below wr.heap.size wr y3 := below_next hz2 hy3
                      have HZ3 : Hid (Below w.heap.size w y3) := below_next HBw.out hz3
                      cases t2 with
                      | false =>
                        have HE10 : Hid (rightE d = 10) := right10 d HL.out (.inr (.inl (by rw [HV.out]; simp)))
                        clear hz3 hy3
                        go_wp2
                        go_ret
                        exact ⟨by rw [HE10.out]; rfl, HZ3.out⟩
                      | true =>
                        go_wp2_with fail
                        refine Calls.mono (HR4.out _ hz3) ?_
                        rintro e y4 ⟨rfl, hy4⟩
                        have hz4 : Below wr.heap.size wr y4 := below_next hz3 hy4
                        have HZ4 : Hid (Below w.heap.size w y4) := below_next HBw.out hz4
                        cases t3 with
                        | false =>
                          have HE10 : Hid (rightE d = 10) := right10 d HL.out (.inr (.inl (by rw [HV.out]; simp)))
                          clear hz4 hy4
                          go_wp2
                          go_ret
                          exact ⟨by rw [HE10.out]; rfl, HZ4.out⟩
                        | true =>
                          have HE0 : Hid (rightE d = 0) := right0 d HL.out H0.out (by rw [HV.out]; rfl) (fun x hx => (HA9.out x hx).1)
                          go_wp2
                          go_ret
                          exact ⟨by rw [HE0.out]; rfl, HZ4.out⟩
/-- The document's Right tells what Right tells. -/
theorem rright_ok (d : Dv) (cs : Array Value) (w : World) (h : DrvAt w d cs) : Calls Tryd.prog 12 #[.agg cs] w fun e w' => e = .returned (.int .i64 (rightE d)) ∧ Below w.heap.size w w' := by
  by_cases hb : 1024 < d.outs.length ∨ 1024 < d.ins.length ∨ 1024 < d.srcs.length ∨ 1024 < d.args.length ∨ 1024 < d.env.length
  · have e : rightE d = 3 := right3 d (by
      have h1 : ¬ longN d ≤ 1024 := fun hle => by
        have := ((longI_le 1024 d.ins _).1 hle).1
        omega
      omega)
    rw [e]
    exact rright_big d cs w h hb
  · exact rright_small d cs w h (by omega) (by omega) (by omega) (by omega) (by omega)
end Go.Proofs.YtmpgfepkdhjibaaDoor
