/- My own work: the walk of reached. -/
import Derived.Test.YtkbhckjpmgkgjaaG10
namespace Go.Proofs.Ytkbhckjpmgkgjaa
open Go.RowKit

theorem info4 : (Try.prog.info? 4).map (fun i => (i.zero, i.size, i.bytes)) = some (some (.bool false), 1, 1) := by kernel_rfl
set_option maxRecDepth 20000 in
set_option maxHeartbeats 8000000 in
theorem reached_ok (g : Nat) (P dv roots : List ByteArray) (E : List (Nat × Nat)) (ra : Option Addr) (rc : Nat) (w : World) (h : GAt w g P dv E) (hn : P.length ≤ 4096) (hE : ∀ x ∈ E, x.1 < P.length ∧ x.2 < P.length) (hr : StrsAt w ra roots rc) :
    Calls Try.prog 29 #[.pointer (some ⟨g, 0, none⟩), .slice ra roots.length rc] w (ReachedPost P roots E w) := by
  have hrf := refs_ok g P dv E w h hn hE
  have HG : Hid (GAt w g P dv E) := h
  have HR : Hid (StrsAt w ra roots rc) := hr
  have hrl := hr.len
  have hrc := hr.le
  unfold big at hrl
  obtain ⟨n, hN⟩ : ∃ n, n = P.length := ⟨_, rfl⟩
  obtain ⟨nr, hNr⟩ : ∃ nr, nr = roots.length := ⟨_, rfl⟩
  rw [← hN] at hrf hn hE
  rw [← hNr] at hrl hrc ⊢
  have HN : Hid _ := hN
  have HNr : Hid _ := hNr
  have HE : Hid _ := hE
  clear h hr hN hNr hE
  go_enter Try.func29, Try.ntmps29
  go_wp2_with fail
  refine hrf.mono ?_
  rintro e w1 ⟨B, r, C, T, rfl, hRws, hT, hb1, hrb⟩
  clear hrf
  have hG1 := HG.out.keep hb1
  obtain ⟨pa, pc, _, _, _, _, _, hrow1, _, _, _⟩ := hG1.ex
  rw [← HN.out] at hrow1
  have q1 := (hrow1.cell 0).trans (rfl : _ = some (Value.slice pa n pc))
  have hmk := run_make_row' (P := Try.prog) 57 4 (.bool false) 1 Try.underlying57 info4 rfl .i64 .i64 n (by omega) (by omega) w1
  obtain ⟨w4, hw4⟩ : ∃ x, x = ((w1.alloc (.cells (madeCells #[.bool false] n) 4)).alloc (.cells #[.slice (some ⟨w1.heap.size, 0, none⟩) n n] 57)).alloc (.cells #[.slice none 0 0] 68) := ⟨_, rfl⟩
  have hb14 : Below w1.heap.size w1 w4 := by rw [hw4]; exact (((Below.refl _ _).alloc (Nat.le_refl _) _).alloc (by simp) _).alloc (by simp; omega) _
  have hs4 : w4.heap.size = w1.heap.size + 3 := by rw [hw4]; simp
  have hRS0 : RS w4 (w1.heap.size + 1) (w1.heap.size + 1 + 1) w1.heap.size n (fun _ => false) [] w4 := by
    refine ⟨rfl, rfl, rfl, Nat.le_refl _, ?_, ?_, ⟨.slice none 0 0, ?_, World.ownsRow_nil _ _ _ _⟩, fun _ _ _ _ => rfl, by omega, by omega, by omega⟩
    · rw [hw4]
      have e := Row.new (w1.alloc (.cells (madeCells #[.bool false] n) 4)) #[.slice (some ⟨w1.heap.size, 0, none⟩) n n] 57
      rw [World.size_alloc] at e
      exact e.alloc _
    · rw [hw4]
      have e : madeCells #[.bool false] n = boolsV n (fun _ => false) := by
        apply Array.toList_inj.1
        rw [toList_madeCells_one]
        apply List.ext_getElem
        · simp
        · intro i h3 h4
          simp
      rw [← e]
      exact ((Row.new w1 _ 4).alloc _).alloc _
    · rw [hw4]
      have e := Row.new ((w1.alloc (.cells (madeCells #[.bool false] n) 4)).alloc (.cells #[.slice (some ⟨w1.heap.size, 0, none⟩) n n] 57)) #[.slice none 0 0] 68
      simpa using e
  have HB : Hid (∀ V S wx, RS w4 (w1.heap.size + 1) (w1.heap.size + 1 + 1) w1.heap.size n V S wx → Below w1.heap.size w1 wx) := fun V S wx hx => hb14.trans ⟨hx.os, hx.tape, hx.output, hx.size, fun k hk => hx.keep k (by omega) (by omega) (by omega)⟩
  have HRw : Hid (∀ V S wx, RS w4 (w1.heap.size + 1) (w1.heap.size + 1 + 1) w1.heap.size n V S wx → Rws wx B r n C T) := fun V S wx hx => hRws.keep (fun k hk _ => (HB.out V S wx hx).block k hk) (HB.out V S wx hx).size
  have HRS0 : Hid _ := hRS0
  have HT : Hid _ := hT
  have HB1 : Hid (Below w.heap.size w w1) := hb1
  have hw4' := hw4.symm
  have hlt : r < w1.heap.size := hRws.row.lt
  clear hG1 hrow1 hw4 hb14 hs4 hRS0 hRws hT hb1
  go_wp2
  clear hmk q1
  go_loopw [28] (fun iv wr => ∃ (i : Nat) (V : Nat → Bool) (S : List Nat), iv = .int .i64 i ∧ i ≤ nr ∧ RS w4 (w1.heap.size + 1) (w1.heap.size + 1 + 1) w1.heap.size n V S wr ∧ DI n E (rootsN P roots) V S ∧ ∀ t, t < i → ∀ k, P[k]? = roots[t]? → k < n → V k = true) (fun iv _ => nr - (intOf iv).toNat)
  case atStart => exact ⟨0, _, _, rfl, Nat.zero_le _, HRS0.out, DI.start, fun t ht => absurd ht (Nat.not_lt_zero _)⟩
  case round =>
    obtain ⟨i, V, S, rfl, hi, hRS, hDI, hrt⟩ := hrel
    have HDI : Hid _ := hDI
    have HRt : Hid _ := hrt
    have HRS : Hid _ := hRS
    by_cases hlt1 : i < nr
    · have hil : i < roots.length := by have := HNr.out; omega
      have hBx := HB1.out.trans ((HB.out V S wr hRS).mono HB1.out.size)
      obtain ⟨b, off, ha, hc⟩ := (HR.out.keep hBx).ex
      obtain rfl := ha (by omega)
      have hcell := hc i hil
      obtain ⟨x, hx⟩ : ∃ x, x = roots[i] := ⟨_, rfl⟩
      rw [← hx] at hcell
      have HX : Hid _ := hx
      have hGx := HG.out.keep hBx
      obtain ⟨xa, xc, _, _, _, _, _, hrowx, hSx, _, _⟩ := hGx.ex
      have H := number_ok P x g xa xc wr ((hrowx.cell 0).trans rfl) hSx hGx.up
      have hlt1' : (i : Int) < (nr : Int) := by omega
      clear hx hc ha hGx hrowx hSx hBx hDI hrt hRS
      go_wp2_with fail
      refine H.mono ?_
      rintro e w5 ⟨k, rfl, hk1, hk2, q, rfl⟩
      clear H
      by_cases hm : x ∈ P
      · rw [decide_eq_true hm]
        have hk := hk1 hm
        have hkn : k < n := by rw [HN.out]; exact (List.getElem?_eq_some_iff.1 hk).1
        have hRS5 := HRS.out.drewN q
        have hSl := few_S HDI.out.stk HDI.out.vis HDI.out.nd
        have H := reach_ok w4 (w1.heap.size + 1) (w1.heap.size + 1 + 1) w1.heap.size n V S k (wr.drewN q) hRS5 hkn hn hSl
        have HK : Hid _ := hk
        clear hk1 hk2 hk hRS5 hSl
        go_wp2_with fail
        refine H.mono ?_
        rintro e w6 ⟨⟨r6, rfl⟩, hRS6⟩
        have HRS6 : Hid _ := hRS6
        clear H hRS6
        go_wp2
        go_roundw
        case rel =>
          refine ⟨i + 1, setV V k, if V k then S else S ++ [k], by go_num, by omega, HRS6.out, HDI.out.push hkn (.root ⟨x, by rw [HX.out]; exact List.getElem_mem _, HK.out⟩), fun t ht j hj hjn => ?_⟩
          rw [setV_iff]
          by_cases e : t = i
          · subst e
            rw [List.getElem?_eq_getElem hil, ← HX.out] at hj
            refine .inr ?_
            obtain ⟨h1, h2⟩ := List.getElem?_eq_some_iff.1 hj
            obtain ⟨h3, h4⟩ := List.getElem?_eq_some_iff.1 HK.out
            exact HG.out.up.inj hj HK.out
          · exact .inl (HRt.out t (by omega) j hj hjn)
        case measure => simp [intOf]; omega
      · rw [decide_eq_false hm]
        have HRS5 : Hid _ := HRS.out.drewN q
        clear hk1 hk2
        go_wp2
        go_roundw
        case rel =>
          refine ⟨i + 1, V, S, by go_num, by omega, HRS5.out, HDI.out, fun t ht j hj hjn => ?_⟩
          by_cases e : t = i
          · subst e
            rw [List.getElem?_eq_getElem hil, ← HX.out] at hj
            exact absurd (List.mem_of_getElem? hj) hm
          · exact HRt.out t (by omega) j hj hjn
        case measure => simp [intOf]; omega
    · have hlt1' : ¬ (i : Int) < (nr : Int) := by omega
      have hroot : ∀ k, rootsN P roots k → V k = true := fun k ⟨x, hx, hk⟩ => by
        obtain ⟨t, ht, rfl⟩ := List.getElem_of_mem hx
        refine hrt t (by have := HNr.out; omega) k (by rw [hk, List.getElem?_eq_getElem ht]) ?_
        rw [HN.out]
        exact (List.getElem?_eq_some_iff.1 hk).1
      have HRo : Hid _ := hroot
      clear hDI hrt hRS hroot
      go_wp2
      go_loopg [] (2 * unv n V + S.length) (fun gg wx => ∃ (V' : Nat → Bool) (S' : List Nat), RS w4 (w1.heap.size + 1) (w1.heap.size + 1 + 1) w1.heap.size n V' S' wx ∧ DI n E (rootsN P roots) V' S' ∧ (∀ k, rootsN P roots k → V' k = true) ∧ 2 * unv n V' + S'.length ≤ gg)
      case atStart => exact ⟨V, S, HRS.out, HDI.out, HRo.out, Nat.le_refl _⟩
      case round =>
        obtain ⟨V', S', hRS', hDI', hRo', hgg⟩ := hrel
        obtain ⟨wE, hwE⟩ : ∃ x, x = wr := ⟨_, rfl⟩
        subst hwE
        rcases List.eq_nil_or_concat S' with hS' | ⟨S0, y, hS'⟩
        · subst hS'
          obtain ⟨nv, h7, h8⟩ := hRS'.c7r
          obtain ⟨na, nc, rfl⟩ := own_slice h8
          have q7 : wE.cell? ⟨w1.heap.size + 1 + 1, 0, none⟩ = some (.slice na 0 nc) := (h7.cell 0).trans rfl
          have q6 : wE.cell? ⟨w1.heap.size + 1, 0, none⟩ = some (.slice (some ⟨w1.heap.size, 0, none⟩) n n) := (hRS'.c6r.cell 0).trans rfl
          have HF : Hid (ReachedPost P roots E w (.returned (.slice (some ⟨w1.heap.size, 0, none⟩) n n)) wE) := ⟨w1.heap.size, V', by rw [← HN.out], by rw [← HN.out]; exact hRS'.rbr, fun k => hDI'.all hRo' k, HB1.out.trans ((HB.out V' [] wE hRS').mono HB1.out.size)⟩
          clear h7 h8 hRS' hDI' hRo'
          go_wp2
          go_ret
          exact HF.out
        · rw [List.concat_eq_append] at hS'
          subst hS'
          obtain ⟨av, cv, q7, hcl, hcm, qy, hRSp⟩ := hRS'.pop
          obtain ⟨wP, hwP⟩ : ∃ x, x = wE.setCell ⟨w1.heap.size + 1 + 1, 0, none⟩ (.slice (some ⟨av, 0, none⟩) S0.length cv) := ⟨_, rfl⟩
          rw [← hwP] at hRSp
          have hwP' := hwP.symm
          have f7 : wE.frozen? ⟨w1.heap.size + 1 + 1, 0, none⟩ = false := by
            obtain ⟨nv, h7, _⟩ := hRS'.c7r
            exact h7.frozen 0
          have hDP := hDI'.pop
          have hyn : y < n := (hDI'.vis y hDP.at').1
          have hyr : Rch E (rootsN P roots) y := (hDI'.vis y hDP.at').2
          have hRwP := HRw.out V' S0 wP hRSp
          have qr := hRwP.cell hyn
          have hoy := hRwP.own y hyn
          obtain ⟨va, vc, hCy⟩ := own_slice hoy
          have HCy : Hid (C y = .slice va (T y).length vc) := hCy
          rw [hCy] at qr
          rw [hCy] at hoy
          have hTy := HT.out y hyn
          have hlS : (S0 ++ [y]).length = S0.length + 1 := by simp
          rw [hlS] at hgg
          have hS0n := few_S hDP.stk hDP.vis hDP.nd
          have hTl : (T y).length ≤ 9223372036854775807 := by
            rcases hoy.2 with ⟨_, h2⟩ | ⟨_, _, _, _, _, _, h4, h5, _⟩
            · omega
            · unfold maxLen at h5
              omega
          have hyn' : (y : Int) < (n : Int) := by omega
          have hw1s : IntKind.i64.wrap (((S0.length + 1 : Nat) : Int) - 1) = (S0.length : Int) := by rw [IntKind.wrap_i64]; omega
          have hpos : (0 : Int) < ((S0.length + 1 : Nat) : Int) := by omega
          have hlt2 : (S0.length : Int) < ((S0.length + 1 : Nat) : Int) := by omega
          have HDP : Hid _ := hDP
          have HRSp : Hid _ := hRSp
          have HOy : Hid _ := hoy
          have HTy : Hid _ := hTy
          have HRo2 : Hid _ := hRo'
          clear hwP hRS' hDI' hRo' hDP hRSp hRwP hoy hTy hlS
          go_wp2
          obtain ⟨nt, hnt⟩ : ∃ nt, nt = (T y).length := ⟨_, rfl⟩
          rw [← hnt] at hTl ⊢
          have HNt : Hid _ := hnt
          clear q7 f7 qy qr hw1s hpos hlt2 hwP' hnt hCy
          go_loopw [61] (fun iv wx => ∃ (j : Nat) (V2 : Nat → Bool) (S2 : List Nat), iv = .int .i64 j ∧ j ≤ nt ∧ RS w4 (w1.heap.size + 1) (w1.heap.size + 1 + 1) w1.heap.size n V2 S2 wx ∧ DP n E (rootsN P roots) V2 S2 y ∧ (∀ k, rootsN P roots k → V2 k = true) ∧ (∀ t, t < j → ∀ x, (T y)[t]? = some x → V2 x = true) ∧ 2 * unv n V2 + S2.length + 1 ≤ gk) (fun iv _ => nt - (intOf iv).toNat)
          case atStart => exact ⟨0, V', S0, rfl, Nat.zero_le _, HRSp.out, HDP.out, HRo2.out, fun t ht => absurd ht (Nat.not_lt_zero _), by omega⟩
          case round =>
            obtain ⟨j, V2, S2, rfl, hj, hRS2, hDP2, hRo3, hTv, hg2⟩ := hrel
            have HDP2 : Hid _ := hDP2
            have HRS2 : Hid _ := hRS2
            have HRo3 : Hid _ := hRo3
            have HTv : Hid _ := hTv
            by_cases hjn : j < nt
            · have hjl : j < (T y).length := by have := HNt.out; omega
              have hRw2 := HRw.out V2 S2 wr hRS2
              have ho2 := hRw2.own y hyn
              have hxe : (T y)[j]? = some (T y)[j] := List.getElem?_eq_getElem hjl
              obtain ⟨x, hx⟩ : ∃ x, x = (T y)[j] := ⟨_, rfl⟩
              rw [← hx] at hxe
              have hxE : (y, x) ∈ E := (HTy.out x).1 (by rw [hx]; exact List.getElem_mem _)
              have hxn : x < n := (HE.out _ hxE).2
              have hSl := few_S hDP2.stk hDP2.vis hDP2.nd
              have hcx : ∃ vb, va = some ⟨vb, 0, none⟩ ∧ wr.cell? ⟨vb, j, none⟩ = some (.int .i64 (x : Int)) := by
                rw [HCy.out] at ho2
                have ho3 := ho2
                rcases ho2.2 with ⟨_, h2⟩ | ⟨g1, c1, cur, h1, h2, h3, h4, h5, _⟩
                · omega
                · simp only [Value.slice.injEq] at h1
                  obtain ⟨rfl, _, rfl⟩ := h1
                  refine ⟨g1, rfl, ?_⟩
                  rw [ho3.cellAt j (by omega), List.getElem?_map, hxe]
                  rfl
              obtain ⟨vb, rfl, hcx2⟩ := hcx
              have H := reach_ok w4 (w1.heap.size + 1) (w1.heap.size + 1 + 1) w1.heap.size n V2 S2 x wr hRS2 hxn hn hSl
              have hjn' : (j : Int) < (nt : Int) := by omega
              have HX : Hid _ := hxe
              clear hRw2 ho2 hx hxe hSl hRS2 hDP2 hRo3 hTv
              go_wp2_with fail
              refine H.mono ?_
              rintro e w6 ⟨⟨r6, rfl⟩, hRS6⟩
              have HRS6 : Hid _ := hRS6
              clear H hRS6
              go_wp2
              go_roundw
              case rel =>
                refine ⟨j + 1, setV V2 x, if V2 x then S2 else S2 ++ [x], by go_num, by omega, HRS6.out, HDP2.out.push hxn (.step hyr hxE), fun k hk => (setV_iff _ _ _).2 (.inl (HRo3.out k hk)), fun t ht z hz => ?_, ?_⟩
                · rw [setV_iff]
                  by_cases e : t = j
                  · subst e
                    rw [HX.out] at hz
                    exact .inr (Option.some.inj hz).symm
                  · exact .inl (HTv.out t (by omega) z hz)
                · have := push_meas (V := V2) (S := S2) hxn
                  omega
              case measure => simp [intOf]; omega
            · have hjn' : ¬ (j : Int) < (nt : Int) := by omega
              clear hRS2 hDP2 hRo3 hTv
              go_wp2
              go_roundg (2 * unv n V2 + S2.length)
              case measure => omega
              case rel =>
                refine ⟨V2, S2, HRS2.out, HDP2.out.done fun x hx => ?_, HRo3.out, Nat.le_refl _⟩
                have h1 := (HTy.out x).2 hx
                obtain ⟨t, ht, rfl⟩ := List.getElem_of_mem h1
                exact HTv.out t (by have := HNt.out; omega) _ (List.getElem?_eq_getElem ht)
end Go.Proofs.Ytkbhckjpmgkgjaa
