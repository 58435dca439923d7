/- The walk of Put. -/
import Derived.Test.YtdbnnljlbfjobaaGreatDoorGet
namespace Go.Proofs.YtdbnnljlbfjobaaGreatDoor
open Go.RowKit
section
variable {w : World} {base g1 c1 g2 c2 gd : Nat} {ev : Value} {D : Dk} {jb gj gm : Nat} {J : Jn}


theorem look_inv {L : List Pt} {k : Nat} {f : Nat → Int} (h : lookL L k = some f) : ∃ p ∈ L, p.k = k ∧ p.f = f := by
  unfold lookL at h
  obtain ⟨p, hp, e⟩ := Option.map_eq_some_iff.1 h
  exact ⟨p, List.mem_of_find?_eq_some hp, by simpa using List.find?_some hp, e⟩
/-- What is put stays such that it may be. -/
theorem Jn.ok.put {s : Nat} (h : J.ok s) {n : Nat} {f : Nat → Int} {L' : List Pt} (hn : n < s) (hno : n < J.at' ∨ J.at' + J.sec ≤ n) (hf : ∀ i, 0 ≤ f i ∧ f i < 256) (hnd : (L'.map Pt.k).Nodup) (hl : ∀ x, lookL L' x = if x = n then some f else lookL J.L x) (hfew : L'.length ≤ J.sec - 1) : ({ J with L := L' } : Jn).ok s :=
  ⟨h.lo, h.hi, h.fits, hfew, fun p hp => by
    obtain ⟨i, hi⟩ := List.getElem?_of_mem hp
    have e := lookL_some hnd hi
    rw [hl] at e
    by_cases hk : p.k = n
    · rw [if_pos hk] at e
      have e' : f = p.f := by simpa using e
      rw [hk, ← e']
      exact ⟨hn, hno, hf⟩
    · rw [if_neg hk] at e
      obtain ⟨q, hq, h1, h2⟩ := look_inv e
      have := h.puts q hq
      rw [h1, h2] at this
      exact this⟩

set_option maxRecDepth 20000 in
set_option maxHeartbeats 4000000 in
/-- A sector that may be put, of 256 bytes. -/
theorem put_ok (hD : DiskAt w base gd g1 c1 g2 c2 ev D) (hJ : JAt w jb gj gm gd J) (hok : J.ok D.s) (n : Nat) (hn : n < D.s) (hno : n < J.at' ∨ J.at' + J.sec ≤ n) (b c : Nat) (f : Nat → Int) (hf : ∀ i, 0 ≤ f i ∧ f i < 256) (src : Array Value) (hsrc : Row w b src 5) (hcs : ∀ i, i < 256 → src[i]? = some (.int .u8 (f i))) :
    Calls Tryz.prog 38 #[.pointer (some ⟨gj, 0, none⟩), .int .i64 n, .slice (some ⟨b, 0, none⟩) 256 c] w fun e w' => (e = .returned (.int .i64 3) ∧ lookL J.L n = none ∧ J.L.length = J.sec - 1 ∧ Below w.heap.size w w') ∨
      (e = .returned (.int .i64 0) ∧ ((lookL J.L n).isSome = true ∨ J.L.length < J.sec - 1) ∧ ∃ L' w1, JAt w' jb gj gm gd { J with L := L' } ∧ ({ J with L := L' } : Jn).ok D.s ∧ (∀ x, lookL L' x = if x = n then some f else lookL J.L x) ∧ Below w.heap.size w w1 ∧ JAt w1 jb gj gm gd J ∧ One gm w1 w') := by
  have hsl := hok.lo
  have hsh := hok.hi
  have hfi := hok.fits
  have hfew := hok.few
  have hDh := hD.ok.hi
  have H1 := jmade_yes hD hJ
  have H2 := jhas_any hD hJ n
  rw [show decide (0 ≤ (n : Int) ∧ (n : Int) < (D.s : Int)) = true by simp; omega] at H2
  have H3 := owns_any hJ (by omega) n
  rw [show decide ((J.at' : Int) ≤ (n : Int) ∧ (n : Int) < (J.at' : Int) + J.sec) = false by simp; omega] at H3
  have hbd : Below w.heap.size w w.drew := (Below.refl _ _).drew
  have hJd := hJ.below hbd
  have hDd := hD.below hbd (Nat.le_refl _)
  have hsd : Row w.drew b src 5 := hsrc
  have haa : ∀ w : World, (Instr.arrayAt 99 (.slice (some ⟨b, 0, none⟩) 256 c)).run Tryz.prog w = .ok (.pointer (some ⟨b, 0, none⟩)) w := fun w => run_arrayAt w 99 5 256 _ 256 c Tryz.underlying99 (Nat.le_refl _)
  have i83' : (Tryz.prog.info? 99).map (·.size) = some (byts f 256).length := by rw [byts_len]; exact info63
  have hrange : ∀ wx : World, Row wx gj #[.pointer (some ⟨gd, 0, none⟩), .int .i64 J.at', .int .i64 J.sec, .map (some gm)] 132 ∧ Row wx b src 5 → wx.rangeAt b 0 (byts f 256) := fun wx hx j v hj => by
    have hj' : j < 256 := by rw [← byts_len f 256]; exact (List.getElem?_eq_some_iff.1 hj).1
    rw [Nat.zero_add, hx.2.cell, hcs j hj', ← hj, byts_at _ _ _ hj']
  have hent : entV f = .agg (byts f 256).toArray := rfl
  have c3 := (hJd.row.cell 3).trans (rfl : _ = some (Value.map (some gm)))
  have HOK : Hid _ := hok
  have HF : Hid _ := hf
  have HRG : Hid _ := hrange
  clear hD hJ hsrc hcs hok hf hrange
  go_enter Tryz.func38, Tryz.ntmps38
  go_wp2_with fail
  refine H1.mono ?_
  rintro e w' ⟨rfl, hw'⟩
  subst w'
  go_wp2_with fail
  refine H2.mono ?_
  rintro e w' ⟨rfl, hw'⟩
  subst w'
  go_wp2_with fail
  refine H3.mono ?_
  rintro e w' ⟨rfl, hw'⟩
  subst w'
  clear H1 H2 H3
  generalize hwd : w.drew = wd at *
  have hbd' : Below w.heap.size w wd := hbd
  have hszd : wd.heap.size = w.heap.size := by rw [← hwd]; rfl
  have HSZ : Hid _ := hszd
  clear hwd hbd hszd
  rcases hJd.map.lookup n true with ⟨j, p, hj, hp, hrun⟩ | ⟨hnone, hrun⟩
  · have hk : p.k = n := by omega
    have hsome : (lookL J.L n).isSome = true := by rw [← hk, lookL_some hJd.map.nodup hj]; rfl
    simp only [if_true, entV] at hrun
    have hi := i83 p.f
    have hz := z83s p.f
    have ho := one83 p.f
    generalize (byts p.f 256).toArray = C at *
    have hbE : Below wd.heap.size wd (wd.alloc (.cells C 99)) := (Below.refl _ _).alloc (Nat.le_refl _) _
    have hJE : JAt (wd.alloc (.cells C 99)).drew jb gj gm gd J := (hJd.below hbE).below (Below.refl _ _).drew
    have hSE : Row (wd.alloc (.cells C 99)).drew gj #[.pointer (some ⟨gd, 0, none⟩), .int .i64 J.at', .int .i64 J.sec, .map (some gm)] 132 ∧ Row (wd.alloc (.cells C 99)).drew b src 5 := ⟨hJE.row, hsd.alloc _⟩
    have hB1 : Below w.heap.size w (wd.alloc (.cells C 99)).drew := (hbd'.alloc hbd'.size _).drew
    obtain ⟨w3, L', hup, hM3, hO3, hl3, hn3⟩ := hJE.map.update n f
    have hJ3 : JAt w3 jb gj gm gd { J with L := L' } := ⟨(hO3.block gj (hJE.map.row_ne hJE.row).symm).trans hJE.row, hM3, hJE.geJ, hJE.geM⟩
    have hok3 : ({ J with L := L' } : Jn).ok D.s := HOK.out.put hn hno HF.out hM3.nodup hl3 (by rw [hn3, hsome]; simpa using hfew)
    rw [hent] at hup
    have HUP : Hid _ := hup
    have HS : Hid _ := hSE
    have HJ3 : Hid _ := hJ3
    have HO3 : Hid _ := hO3
    have HL3 : Hid _ := hl3
    have HK3 : Hid _ := hok3
    have HJE : Hid _ := hJE
    have HB1 : Hid _ := hB1
    clear hup hSE hJ3 hO3 hl3 hok3 hM3 hn3 hJE hB1 hbE
    obtain ⟨LB, hLB⟩ : ∃ LB, byts f 256 = LB := ⟨_, rfl⟩
    rw [hLB] at i83' HUP HRG
    clear hLB hent
    go_wp2_with (first
      | refine wpList_store_new rfl 99 _ _ rfl wd _ C 99 rfl wd.heap.size rfl rfl rfl hi hz ho ?_)
    refine wp_region_perm [(false, 0), (false, 1), (false, 2), (false, 3), (false, 4), (false, 5), (false, 6), (false, 7), (true, 8)] (fun wx => Row wx gj #[.pointer (some ⟨gd, 0, none⟩), .int .i64 J.at', .int .i64 J.sec, .map (some gm)] 132 ∧ Row wx b src 5) (by kernel_rfl) (by kernel_rfl) HS.out ?_
    refine p_move (some 47) _ rfl rfl rfl (by rfl) ?_
    simp only [Act.put, List.setIfInBounds_toArray, List.set_cons_zero, List.set_cons_succ]
    refine p_value (some 48) ?_ rfl rfl (by rfl) (fun w hw => ?_) ?_
    rotate_left
    · go_simp
      with_reducible rfl
    simp only [Act.put, List.setIfInBounds_toArray, List.set_cons_zero, List.set_cons_succ]
    refine p_value (some 49) ?_ rfl rfl (by rfl) (fun w hw => ?_) ?_
    rotate_left
    · go_simp
      with_reducible rfl
    simp only [Act.put, List.setIfInBounds_toArray, List.set_cons_zero, List.set_cons_succ]
    refine p_value (some 50) ?_ rfl rfl (by rfl) (fun w hw => ?_) ?_
    rotate_left
    · have hc := (hw.1.cell 3).trans (rfl : _ = some (Value.map (some gm)))
      go_simp
      with_reducible rfl
    simp only [Act.put, List.setIfInBounds_toArray, List.set_cons_zero, List.set_cons_succ]
    refine p_move (some 51) _ rfl rfl rfl (by rfl) ?_
    simp only [Act.put, List.setIfInBounds_toArray, List.set_cons_zero, List.set_cons_succ]
    refine p_move (some 52) _ rfl rfl rfl (by rfl) ?_
    simp only [Act.put, List.setIfInBounds_toArray, List.set_cons_zero, List.set_cons_succ]
    refine p_value (some 53) ?_ rfl rfl (by rfl) (fun w hw => ?_) ?_
    rotate_left
    · have hq := haa w
      go_simp
      with_reducible rfl
    simp only [Act.put, List.setIfInBounds_toArray, List.set_cons_zero, List.set_cons_succ]
    refine p_load_mid (some 54) 99 _ rfl rfl rfl (by rfl) b 0 rfl LB _ HRG.out Tryz.underlying99 rfl i83' ?_
    simp only [Act.put, List.setIfInBounds_toArray, List.set_cons_zero, List.set_cons_succ]
    refine p_store w3 rfl rfl (by rfl) (by have hq := HUP.out; go_simp) (fun h => absurd rfl h) ?_
    refine p_done ?_
    try simp only [Exit.then]
    go_wp2
    go_ret
    exact .inr ⟨rfl, .inl hsome, L', _, HJ3.out, HK3.out, HL3.out, HB1.out, HJE.out, HO3.out⟩
  · have hlk : lookL J.L n = none := lookL_none (fun p hp e => hnone p hp (by omega))
    simp only [if_true, entV] at hrun
    have hi := i83 (fun _ => 0)
    have hz := z83s (fun _ => 0)
    have ho := one83 (fun _ => 0)
    generalize (byts (fun _ => 0) 256).toArray = C at *
    have hbE0 : Below wd.heap.size wd (wd.alloc (.cells C 99)) := (Below.refl _ _).alloc (Nat.le_refl _) _
    have hlen := (hJd.map.below hbE0).len 3
    have c3e := ((hJd.below hbE0).row.cell 3).trans (rfl : _ = some (Value.map (some gm)))
    have HM := most_yes (hDd.below hbE0 (Nat.le_refl _)) (hJd.below hbE0) hsh
    have HHM : Hid _ := HM
    clear HM
    by_cases hfull : J.L.length = J.sec - 1
    · skip
      have hB3 : Below w.heap.size w (wd.alloc (.cells C 99)) := hbd'.alloc hbd'.size _
      have HB3 : Hid _ := hB3
      have hfI : (J.L.length : Int) = (J.sec : Int) - 1 := by omega
      have HHE : Hid _ := hfull
      clear hB3 hbE0 hnone hfull
      go_wp2_with (first
        | refine wpList_store_new rfl 99 _ _ rfl wd _ C 99 rfl wd.heap.size rfl rfl rfl hi hz ho ?_)
      refine Calls.mono HHM.out ?_
      rintro e w' ⟨rfl, hw'⟩
      subst w'
      go_wp2
      go_ret
      exact .inl ⟨rfl, hlk, HHE.out, HB3.out⟩
    · skip
      have hroom : J.L.length < J.sec - 1 := by omega
      have hfI : ¬ (J.L.length : Int) = (J.sec : Int) - 1 := by omega
      clear hbE0 hnone hfull
      have hbE : Below wd.heap.size wd (wd.alloc (.cells C 99)) := (Below.refl _ _).alloc (Nat.le_refl _) _
      have hJE : JAt (wd.alloc (.cells C 99)).drew jb gj gm gd J := (hJd.below hbE).below (Below.refl _ _).drew
      have hSE : Row (wd.alloc (.cells C 99)).drew gj #[.pointer (some ⟨gd, 0, none⟩), .int .i64 J.at', .int .i64 J.sec, .map (some gm)] 132 ∧ Row (wd.alloc (.cells C 99)).drew b src 5 := ⟨hJE.row, hsd.alloc _⟩
      have hB1 : Below w.heap.size w (wd.alloc (.cells C 99)).drew := (hbd'.alloc hbd'.size _).drew
      obtain ⟨w3, L', hup, hM3, hO3, hl3, hn3⟩ := hJE.map.update n f
      have hJ3 : JAt w3 jb gj gm gd { J with L := L' } := ⟨(hO3.block gj (hJE.map.row_ne hJE.row).symm).trans hJE.row, hM3, hJE.geJ, hJE.geM⟩
      have hok3 : ({ J with L := L' } : Jn).ok D.s := HOK.out.put hn hno HF.out hM3.nodup hl3 (by rw [hn3, hlk]; simp; omega)
      rw [hent] at hup
      have HUP : Hid _ := hup
      have HS : Hid _ := hSE
      have HJ3 : Hid _ := hJ3
      have HO3 : Hid _ := hO3
      have HL3 : Hid _ := hl3
      have HK3 : Hid _ := hok3
      have HJE : Hid _ := hJE
      have HB1 : Hid _ := hB1
      clear hup hSE hJ3 hO3 hl3 hok3 hM3 hn3 hJE hB1 hbE
      obtain ⟨LB, hLB⟩ : ∃ LB, byts f 256 = LB := ⟨_, rfl⟩
      rw [hLB] at i83' HUP HRG
      clear hLB hent
      go_wp2_with (first
        | refine wpList_store_new rfl 99 _ _ rfl wd _ C 99 rfl wd.heap.size rfl rfl rfl hi hz ho ?_)
      refine Calls.mono HHM.out ?_
      rintro e w' ⟨rfl, hw'⟩
      subst w'
      go_wp2_with fail
      refine wp_region_perm [(false, 0), (false, 1), (false, 2), (false, 3), (false, 4), (false, 5), (false, 6), (false, 7), (true, 8)] (fun wx => Row wx gj #[.pointer (some ⟨gd, 0, none⟩), .int .i64 J.at', .int .i64 J.sec, .map (some gm)] 132 ∧ Row wx b src 5) (by kernel_rfl) (by kernel_rfl) HS.out ?_
      refine p_move (some 47) _ rfl rfl rfl (by rfl) ?_
      simp only [Act.put, List.setIfInBounds_toArray, List.set_cons_zero, List.set_cons_succ]
      refine p_value (some 48) ?_ rfl rfl (by rfl) (fun w hw => ?_) ?_
      rotate_left
      · go_simp
        with_reducible rfl
      simp only [Act.put, List.setIfInBounds_toArray, List.set_cons_zero, List.set_cons_succ]
      refine p_value (some 49) ?_ rfl rfl (by rfl) (fun w hw => ?_) ?_
      rotate_left
      · go_simp
        with_reducible rfl
      simp only [Act.put, List.setIfInBounds_toArray, List.set_cons_zero, List.set_cons_succ]
      refine p_value (some 50) ?_ rfl rfl (by rfl) (fun w hw => ?_) ?_
      rotate_left
      · have hc := (hw.1.cell 3).trans (rfl : _ = some (Value.map (some gm)))
        go_simp
        with_reducible rfl
      simp only [Act.put, List.setIfInBounds_toArray, List.set_cons_zero, List.set_cons_succ]
      refine p_move (some 51) _ rfl rfl rfl (by rfl) ?_
      simp only [Act.put, List.setIfInBounds_toArray, List.set_cons_zero, List.set_cons_succ]
      refine p_move (some 52) _ rfl rfl rfl (by rfl) ?_
      simp only [Act.put, List.setIfInBounds_toArray, List.set_cons_zero, List.set_cons_succ]
      refine p_value (some 53) ?_ rfl rfl (by rfl) (fun w hw => ?_) ?_
      rotate_left
      · have hq := haa w
        go_simp
        with_reducible rfl
      simp only [Act.put, List.setIfInBounds_toArray, List.set_cons_zero, List.set_cons_succ]
      refine p_load_mid (some 54) 99 _ rfl rfl rfl (by rfl) b 0 rfl LB _ HRG.out Tryz.underlying99 rfl i83' ?_
      simp only [Act.put, List.setIfInBounds_toArray, List.set_cons_zero, List.set_cons_succ]
      refine p_store w3 rfl rfl (by rfl) (by have hq := HUP.out; go_simp) (fun h => absurd rfl h) ?_
      refine p_done ?_
      try simp only [Exit.then]
      go_wp2
      go_ret
      exact .inr ⟨rfl, .inr hroom, L', _, HJ3.out, HK3.out, HL3.out, HB1.out, HJE.out, HO3.out⟩
end
end Go.Proofs.YtdbnnljlbfjobaaGreatDoor
