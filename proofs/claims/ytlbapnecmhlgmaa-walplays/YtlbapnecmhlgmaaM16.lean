/- The walk of the document's Put: what is put anew. -/
import Derived.Test.YtlbapnecmhlgmaaM15
namespace Go.Proofs.Ytlbapnecmhlgmaa
open Go.RowKit

theorem Try.info86 : (Try.prog.info? 86).map (fun i => (i.zero, i.size, i.bytes)) = some (some (.agg #[.int .i64 0, .string ⟨#[]⟩]), 2, 24) := by kernel_rfl
theorem rv_one (Q : List Rv) : ∀ u ∈ rvCells Q, u.oneCell' = true := by
  intro u hu
  simp only [rvCells, List.mem_flatMap] at hu
  obtain ⟨e, _, he⟩ := hu
  simp only [Rv.cells, List.mem_cons, List.not_mem_nil, or_false] at he
  rcases he with rfl | rfl <;> rfl
/-- 'append(v, xs...)' of puts. -/
theorem wpList_append_puts {w : World} {ops : Array Oper} {rest : List Oper} {o : Oper} {act : Act} {Q : Exit → Act → World → Prop} (hgd : o.guard = none) (s x : Operand)
    (ho : o.op = .call { callee := .builtin .append, args := #[s, x], argTypes := #[48, 48] }) (base : Nat) (v : Value) (n : Nat) (xs : List Value) (hs : act.eval s = v) (hown : Hid (w.ownsRow base 86 2 v n xs))
    (a : Option Addr) (b off : Nat) (L : List Rv) (m cap : Nat) (hm : L.length = m) (hx : act.eval x = .slice a m cap) (hat : a = none ∨ a = some ⟨b, off, none⟩) (hnone : a = none → m = 0 ∧ cap = 0) (hcell : Hid (∀ j u, (rvCells L)[j]? = some u → w.cell? ⟨b, off + j, none⟩ = some u)) (hl : n + m ≤ 1000000) (hbase : base ≤ w.heap.size)
    (h : ∀ v' w', Hid (w'.ownsRow base 86 2 v' (n + m) (xs ++ rvCells L)) → w.grownBy w' v.ownBlock → wpList Try.prog ops Q rest (act.put o.dst v') w') : wpList Try.prog ops Q (o :: rest) act w := by
  obtain ⟨i0, hi, hz0, hz1, hz2⟩ := info_parts Try.info86
  subst hm
  rcases hat with rfl | rfl
  · obtain ⟨hm0, rfl⟩ := hnone rfl
    have hL : L = [] := List.eq_nil_of_length_eq_zero hm0
    subst hL
    exact wpList_append_own_none hgd s x 48 ho base 86 i0 2 Try.underlying48 hi v n xs hs hown.out hx (h v w (by show World.ownsRow _ _ _ _ _ _ _; simpa [rvCells] using hown.out) ⟨rfl, rfl, rfl, Nat.le_refl _, fun _ _ _ => rfl⟩)
  · refine wpList_append_own_wide w hgd s x 48 ho base 86 i0 _ 2 24 Try.underlying48 hi hz0 hz1 hz2 rfl (by decide) v n xs hs hown.out ⟨b, off, none⟩ L.length cap (rvCells L) hx (rvCells_len L) ?_ (rv_one L) (by unfold maxLen; omega) (by omega) hbase
      (fun v' w' h1 h2 _ => h v' w' h1 h2)
    intro j u hj
    rw [Addr.add_mid]
    exact hcell.out j u hj

theorem QAt.cellOf {w : World} {base gq gr A sec gl c m : Nat} {P : List Rv} (h : QAt w base gq gr A sec (.slice (some ⟨gl, 0, none⟩) m c) P) (j : Nat) (u : Value) (hj : (rvCells P)[j]? = some u) : w.cell? ⟨gl, j, none⟩ = some u := by
  have hl : j < (rvCells P).length := (List.getElem?_eq_some_iff.1 hj).1
  rw [rvCells_len] at hl
  obtain ⟨_, hn, _⟩ := ownsRow_slice h.puts
  subst hn
  exact (h.puts.cellAt j (by omega)).trans hj
theorem rv_take (P : List Rv) (i j : Nat) (u : Value) (h : (rvCells (P.take i))[j]? = some u) : (rvCells P)[j]? = some u := by
  have e : rvCells P = rvCells (P.take i) ++ rvCells (P.drop i) := by
    unfold rvCells
    rw [← List.flatMap_append, List.take_append_drop]
  have hj : j < (rvCells (P.take i)).length := (List.getElem?_eq_some_iff.1 h).1
  rw [e, List.getElem?_append_left hj]
  exact h
theorem rv_drop (P : List Rv) (i j : Nat) (hi : i ≤ P.length) : (rvCells (P.drop i))[j]? = (rvCells P)[i * 2 + j]? := by
  have e : rvCells P = rvCells (P.take i) ++ rvCells (P.drop i) := by
    unfold rvCells
    rw [← List.flatMap_append, List.take_append_drop]
  have hl : (rvCells (P.take i)).length = i * 2 := by rw [rvCells_len, List.length_take]; omega
  rw [e, List.getElem?_append_right (by omega), hl]
  congr 1
  omega
/-- A journal whose puts are another row. -/
theorem qat_end {w : World} {base B gq gr A sec : Nat} {lv v : Value} {P P' : List Rv} {m : Nat} {xs : List Value} (h : QAt w base gq gr A sec lv P) (hO : w.ownsRow B 86 2 v m xs) (hx : xs = rvCells P') (hm : m = P'.length) (hB : base ≤ B) : QAt (w.setCell ⟨gq, 3, none⟩ v) base gq gr A sec v P' := by
  subst hx hm
  refine ⟨(h.row.setCell (i := 3) v).trans (by simp), ?_, h.ge⟩
  exact ownsRow_keep (ownsRow_base hO hB) (fun k hk _ => Below.heap_setCell _ _ _ _ (by
    obtain ⟨_, _, cur, hr⟩ := ownsRow_lt hO k hk
    exact row_ne hr h.row (by decide)))
theorem one_put (n : Int) (t : ByteArray) (w : World) : (Instr.buildSlice 48 1 #[(0, .agg #[.int .i64 n, .string t])]).run Try.prog w = .ok (.slice (some ⟨w.heap.size, 0, none⟩) 1 1) (w.alloc (.cells #[.int .i64 n, .string t] 86)) := by
  obtain ⟨i0, hi, hz0, hz1, _⟩ := info_parts Try.info86
  refine run_buildSlice w 48 86 1 _ _ i0 _ Try.underlying48 hi hz0 (by rw [hz1]; decide) (by rw [hz1]; decide) ?_
  have h := Go.Great.fill_whole (s := 2) (by decide) [.agg #[.int .i64 n, .string t]] ((Array.range (1 * i0.size)).map ((Value.agg #[.int .i64 0, .string ⟨#[]⟩]).cells[· % (Value.agg #[.int .i64 0, .string ⟨#[]⟩]).cells.size]!)) (fun v hv => by simp at hv; subst hv; rfl) (by simp [hz1])
  rw [hz1] at h ⊢
  simpa [Value.cells] using h

set_option maxRecDepth 20000 in
set_option maxHeartbeats 4000000 in
theorem rput_new {w0 w : World} {b0 : Nat} {fv : Value} {D : Dk} {base gq gr A sec : Nat} {lv : Value} {L : List Pt} {K : List Nat} (hJ : RJ w0 b0 gr fv D w) (h : QAt w base gq gr A sec lv (putsR L K)) (hbase : base ≤ w.heap.size) (hA : A ≤ 100000) (hs1 : 1 ≤ sec) (hs : sec ≤ 100000) (hKl : K.length ≤ 1000) (n k : Nat) (hk : k ≤ K.length) (hlo : ∀ i, i < k → K.getD i 0 < n) (hhi : ∀ i, k ≤ i → i < K.length → n < K.getD i 0) (hn : n < D.s) (hno : n < A ∨ A + sec ≤ n)
    (b off cap : Nat) (f : Nat → Int) (hcell : ∀ wx, Below w.heap.size w wx → ∀ i, i < 256 → wx.cell? ⟨b, off + i, none⟩ = some (.int .u8 (f i))) :
    Calls Try.prog 14 #[.pointer (some ⟨gq, 0, none⟩), .int .i64 n, .slice (some ⟨b, off, none⟩) 256 cap] w fun e w' => (e = .returned (.int .i64 3) ∧ sec ≤ K.length + 1 ∧ Below w.heap.size w w') ∨
      (e = .returned (.int .i64 0) ∧ K.length + 1 < sec ∧ ∃ lv', QAt w' base gq gr A sec lv' ((putsR L K).take k ++ [⟨(n : Nat), sStr f⟩] ++ (putsR L K).drop k) ∧ ∃ w1, Below w.heap.size w w1 ∧ w' = w1.setCell ⟨gq, 3, none⟩ lv') := by
  obtain ⟨rv, R, Fl, h1, h2, h3⟩ := hJ.ref
  have c0 := (h.row.cell 0).trans (rfl : _ = some (Value.pointer (some ⟨gr, 0, none⟩)))
  have cF := (h1.row.cell 0).trans (rfl : _ = some fv)
  obtain ⟨fa, fc, hfv, _⟩ := own_slice h1.first
  rw [hfv, h2.len] at cF
  have HO := rown_any h hA hs n
  rw [decide_eq_false (by omega)] at HO
  have hlen := putsR_len L K
  obtain ⟨a, c, hlv, ha⟩ := own_slice h.puts
  rw [hlen] at hlv ha
  subst hlv
  have HH : Hid _ := h
  have HHO : Hid _ := HO
  have HLO : Hid _ := hlo
  have HHI : Hid _ := hhi
  have HC : Hid _ := hcell
  have HA : Hid _ := ha
  have hnl : ¬ (D.s : Int) ≤ n := by omega
  clear h h1 h2 h3 hJ HO hfv ha hlo hhi hcell
  obtain ⟨T, hT⟩ : ∃ T, T = sStr f := ⟨_, rfl⟩
  rw [← hT]
  have HT : Hid _ := hT
  clear hT
  go_enter Try.func14, Try.ntmps14
  go_wp2_with fail
  refine Calls.mono HHO.out ?_
  rintro e w' ⟨rfl, hw'⟩
  subst w'
  clear HHO c0 cF
  go_wp2
  go_loopw [7] (fun iv wr => ∃ i : Nat, i ≤ k ∧ iv = .int .i64 i ∧ wr = w.drew) (fun iv _ => k - (intOf iv).toNat)
  case atStart => exact ⟨0, Nat.zero_le _, rfl, rfl⟩
  case round =>
    obtain ⟨i, hi, rfl, hwr⟩ := hrel
    have HQ : Hid _ := (HH.out.below (Below.refl w.heap.size w).drew)
    rw [← hwr] at HQ
    have hbw : Below w.heap.size w wr := by rw [hwr]; exact (Below.refl _ _).drew
    have HWR : Hid _ := hwr
    clear hwr
    have c3 := (HQ.out.row.cell 3).trans (rfl : _ = some (Value.slice a K.length c))
    by_cases hik : i < k
    · have hil : (i : Int) < (K.length : Int) := by omega
      obtain ⟨gl, hgl⟩ := HA.out (by omega)
      subst hgl
      obtain ⟨d1, d2⟩ := HQ.out.putAt i _ (putsR_at L K i (by omega))
      have hlt : ((K.getD i 0 : Nat) : Int) < (n : Int) := by have := HLO.out i hik; omega
      obtain ⟨kk, hkk⟩ : ∃ kk, kk = K.getD i 0 := ⟨_, rfl⟩
      rw [← hkk] at d1 hlt
      clear hkk d2
      go_wp2
      go_roundw
      case rel => exact ⟨i + 1, by omega, by go_num, HWR.out⟩
      case measure => simp [intOf]; omega
    · obtain rfl : i = k := by omega
      clear HWR
      -- the frame up to the ninth region, whether or not one stands at the place
      have c2 := (HQ.out.row.cell 2).trans (rfl : _ = some (Value.int .i64 (sec : Int)))
      have e2 : IntKind.i64.wrap ((sec : Int) - 1) = (sec : Int) - 1 := by rw [IntKind.wrap_i64]; omega
      have hca : a = none ∧ K.length = 0 ∧ c = 0 ∨ ∃ gl, a = some ⟨gl, 0, none⟩ ∧ K.length ≤ c ∧ c ≤ maxLen := by
        have hp := HH.out.puts
        obtain ⟨_, ⟨h1, h2⟩ | ⟨g', c', cur, h1, _, _, h4, h5, _⟩⟩ := hp
        · left
          simp only [Value.slice.injEq] at h1
          rw [hlen] at h2
          exact ⟨h1.1, h2, h1.2.2⟩
        · right
          simp only [Value.slice.injEq] at h1
          rw [hlen] at h4
          exact ⟨g', h1.1, by rw [h1.2.2]; exact h4, by rw [h1.2.2]; exact h5⟩
      have HCA : Hid _ := hca
      clear hca
      by_cases hiK : i < K.length
      · have hil : (i : Int) < (K.length : Int) := by omega
        obtain ⟨gl, hgl⟩ := HA.out (by omega)
        obtain ⟨d1, d2⟩ := QAt.putAt (gl := gl) (by rw [← hgl]; exact HQ.out) i _ (putsR_at L K i hiK)
        have hgt : (n : Int) < ((K.getD i 0 : Nat) : Int) := by have := HHI.out i (Nat.le_refl _) hiK; omega
        have hgt1 : ¬ ((K.getD i 0 : Nat) : Int) < (n : Int) := by omega
        have hgt2 : ¬ ((K.getD i 0 : Nat) : Int) = (n : Int) := by omega
        obtain ⟨kk, hkk⟩ : ∃ kk, kk = K.getD i 0 := ⟨_, rfl⟩
        rw [← hkk] at d1 hgt1 hgt2
        clear hkk d2 hgt
        subst hgl
        obtain ⟨hKc, hcm⟩ : K.length ≤ c ∧ c ≤ maxLen := by
          rcases HCA.out with ⟨h, _⟩ | ⟨_, _, h1, h2⟩
          · cases h
          · exact ⟨h1, h2⟩
        unfold maxLen at hcm
        have hic : (i : Int) ≤ (c : Int) := by omega
        go_wp2_with fail
        refine wp_region_mix [false, false, false, false, false, false, false, false, false, false, false] (fun wx => QAt wx base gq gr A sec (.slice (some ⟨gl, 0, none⟩) K.length c) (putsR L K)) (by kernel_rfl) (by kernel_rfl) (HQ.out.below (Below.refl _ _).drew) ?_
        refine m_move _ rfl (by rfl) ?_
        simp only [Act.put, List.setIfInBounds_toArray, List.set_cons_zero, List.set_cons_succ]
        refine m_value ?_ (by rfl) (fun w hw => ?_) ?_
        rotate_left
        · go_simp
          with_reducible rfl
        simp only [Act.put, List.setIfInBounds_toArray, List.set_cons_zero, List.set_cons_succ]
        refine m_value ?_ (by rfl) (fun w hw => ?_) ?_
        rotate_left
        · go_simp
          with_reducible rfl
        simp only [Act.put, List.setIfInBounds_toArray, List.set_cons_zero, List.set_cons_succ]
        refine m_value ?_ (by rfl) (fun w hw => ?_) ?_
        rotate_left
        · have hc := (hw.row.cell 3).trans (rfl : _ = some (Value.slice (some ⟨gl, 0, none⟩) K.length c))
          go_simp
          with_reducible rfl
        simp only [Act.put, List.setIfInBounds_toArray, List.set_cons_zero, List.set_cons_succ]
        refine m_value ?_ (by rfl) (fun w hw => ?_) ?_
        rotate_left
        · go_simp
          with_reducible rfl
        simp only [Act.put, List.setIfInBounds_toArray, List.set_cons_zero, List.set_cons_succ]
        refine m_move _ rfl (by rfl) ?_
        simp only [Act.put, List.setIfInBounds_toArray, List.set_cons_zero, List.set_cons_succ]
        refine m_value ?_ (by rfl) (fun w hw => ?_) ?_
        rotate_left
        · go_simp
          with_reducible rfl
        simp only [Act.put, List.setIfInBounds_toArray, List.set_cons_zero, List.set_cons_succ]
        refine m_value ?_ (by rfl) (fun w hw => ?_) ?_
        rotate_left
        · go_simp
          with_reducible rfl
        simp only [Act.put, List.setIfInBounds_toArray, List.set_cons_zero, List.set_cons_succ]
        refine m_value ?_ (by rfl) (fun w hw => ?_) ?_
        rotate_left
        · have hc := (hw.row.cell 2).trans (rfl : _ = some (Value.int .i64 (sec : Int)))
          go_simp
          with_reducible rfl
        simp only [Act.put, List.setIfInBounds_toArray, List.set_cons_zero, List.set_cons_succ]
        refine m_value ?_ (by rfl) (fun w hw => ?_) ?_
        rotate_left
        · go_simp
          with_reducible rfl
        simp only [Act.put, List.setIfInBounds_toArray, List.set_cons_zero, List.set_cons_succ]
        refine m_value ?_ (by rfl) (fun w hw => ?_) ?_
        rotate_left
        · go_simp
          with_reducible rfl
        simp only [Act.put, List.setIfInBounds_toArray, List.set_cons_zero, List.set_cons_succ]
        refine m_done ?_
        try simp only [Exit.then]
        by_cases hbig : (sec : Int) - 1 ≤ (K.length : Int)
        · go_wp2
          go_ret
          exact .inl ⟨rfl, by omega, hbw.drew⟩
        · clear c2 c3
          obtain ⟨wD, hwD⟩ : ∃ wD, wD = wr.drew := ⟨_, rfl⟩
          have hbD : Below w.heap.size w wD := by rw [hwD]; exact hbw.drew
          have HQD : Hid (QAt wD base gq gr A sec (.slice (some ⟨gl, 0, none⟩) K.length c) (putsR L K)) := by rw [hwD]; exact HQ.out.below (Below.refl _ _).drew
          rw [← hwD]
          clear hwD HQ hbw
          have hszD := hbD.size
          have HQD1 : Hid _ := HQD.out.below ((Below.refl wD.heap.size wD).alloc (Nat.le_refl _) (.cells #[] 86))
          have own0 : Hid ((wD.alloc (.cells #[] 86)).ownsRow wD.heap.size 86 2 (.slice (some ⟨wD.heap.size, 0, none⟩) 0 0) 0 []) := by
            have h := World.ownsRow_lit (base := wD.heap.size) (e := 86) (size := 2) wD #[] 0 (by simp) (by decide) rfl
            show World.ownsRow _ _ _ _ _ _ _
            simpa using h
          have c3 := (HQD1.out.row.cell 3).trans (rfl : _ = some (Value.slice (some ⟨gl, 0, none⟩) K.length c))
          have hb1 : Below wD.heap.size wD (wD.alloc (.cells #[] 86)) := (Below.refl _ _).alloc (Nat.le_refl _) _
          have hcell1 : Hid (∀ j u, (rvCells ((putsR L K).take i))[j]? = some u → (wD.alloc (.cells #[] 86)).cell? ⟨gl, 0 + j, none⟩ = some u) := fun j u hj => by rw [Nat.zero_add]; exact (QAt.cellOf HQD1.out j u (rv_take _ _ _ _ hj))
          have ht1 : ((putsR L K).take i).length = i := by rw [List.length_take, hlen]; omega
          have ht3 : ((putsR L K).drop i).length = K.length - i := by rw [List.length_drop, hlen]
          go_wp2_with (at_builtin; refine wpList_append_puts rfl (.tmp 93) (.tmp 99) rfl wD.heap.size _ 0 [] rfl own0 (some ⟨gl, 0, none⟩) (gl) 0 ((putsR L K).take i) i c ht1 rfl (.inr rfl) (fun h => nomatch h) hcell1 (by omega) (by simp) ?_)
          intro v1 w3 own1 grow1
          have hb3 : Below wD.heap.size wD w3 := own_grown own0.out hb1 (by simp) grow1
          have hb3w : Below w.heap.size w w3 := hbD.trans (hb3.mono hszD)
          have hs3 := hb3.size
          have hcv : (convert 40 9 (.slice (some ⟨b, off, none⟩) 256 cap)).run Try.prog w3 = .ok (.string T) w3 := by rw [HT.out]; exact conv256 w3 b off cap f (HC.out w3 hb3w)
          have hone := one_put (n : Int) T
          have own1' : Hid ((w3.alloc (.cells #[.int .i64 (n : Int), .string T] 86)).ownsRow wD.heap.size 86 2 v1 i (rvCells ((putsR L K).take i))) := by
            show World.ownsRow _ _ _ _ _ _ _
            simpa using own1.out.alloc (.cells #[.int .i64 (n : Int), .string T] 86)
          have hcell2 : Hid (∀ j u, (rvCells [(⟨(n : Int), T⟩ : Rv)])[j]? = some u → (w3.alloc (.cells #[.int .i64 (n : Int), .string T] 86)).cell? ⟨w3.heap.size, 0 + j, none⟩ = some u) := fun j u hj => by
            rw [Nat.zero_add, (Row.new w3 #[.int .i64 (n : Int), .string T] 86).cell j]
            simpa [rvCells, Rv.cells] using hj
          clear own0 grow1 c3 hcell1 hb1 HQD1
          go_wp2_with (at_builtin; refine wpList_append_puts rfl (.tmp 101) (.tmp 106) rfl wD.heap.size v1 i (rvCells ((putsR L K).take i)) rfl own1' (some ⟨w3.heap.size, 0, none⟩) w3.heap.size 0 [(⟨(n : Int), T⟩ : Rv)] 1 1 rfl rfl (.inr rfl) (fun h => nomatch h) hcell2 (by omega) (by simp; omega) ?_)
          intro v2 w4 own2 grow2
          have hb4 : Below wD.heap.size wD w4 := own_grown own1'.out (hb3.alloc hs3 _) (by simp; omega) grow2
          have hb4w : Below w.heap.size w w4 := hbD.trans (hb4.mono hszD)
          have hs4 := hb4.size
          have HQ4 : Hid _ := HQD.out.below hb4
          have c3 := (HQ4.out.row.cell 3).trans (rfl : _ = some (Value.slice (some ⟨gl, 0, none⟩) K.length c))
          have hcell3 : Hid (∀ j u, (rvCells ((putsR L K).drop i))[j]? = some u → w4.cell? ⟨gl, i * 2 + j, none⟩ = some u) := fun j u hj => by rw [rv_drop _ _ _ (by rw [hlen]; omega)] at hj; exact QAt.cellOf HQ4.out _ u hj
          clear own1 own1' grow2 hcell2 hcv hone
          go_wp2_with (at_builtin; refine wpList_append_puts rfl (.tmp 109) (.tmp 115) rfl wD.heap.size v2 (i + 1) (rvCells ((putsR L K).take i) ++ rvCells [(⟨(n : Int), T⟩ : Rv)]) rfl own2 (some ⟨gl, i * 2, none⟩) (gl) (i * 2) ((putsR L K).drop i) (K.length - i) (c - i) ht3 rfl (.inr rfl) (fun h => nomatch h) hcell3 (by omega) (by omega) ?_)
          intro v3 w5 own3 grow3
          have hb5 : Below wD.heap.size wD w5 := own_grown own2.out hb4 hs4 grow3
          have hb5w : Below w.heap.size w w5 := hbD.trans (hb5.mono hszD)
          have HQ5 : Hid _ := HQD.out.below hb5
          have c5 := (HQ5.out.row.cell 3).trans (rfl : _ = some (Value.slice (some ⟨gl, 0, none⟩) K.length c))
          have hfz := HQ5.out.row.frozen 3
          obtain ⟨a3, c3', hv3, _⟩ := own_slice own3.out
          have HO3 : Hid _ := own3
          have HV3 : Hid _ := hv3
          clear own2 own3 grow3 hcell3 c3
          subst hv3
          go_wp2
          go_ret
          refine .inr ⟨rfl, by omega, _, ?_, w5, hb5w, rfl⟩
          have hP : (putsR L K).take i ++ ⟨(n : Int), T⟩ :: (putsR L K).drop i = (putsR L K).take i ++ [(⟨(n : Int), T⟩ : Rv)] ++ (putsR L K).drop i := by simp
          have hO := HO3.out
          exact qat_end HQ5.out hO (by simp [rvCells]) (by simp [hlen]; omega) (Nat.le_trans hbase (Nat.le_trans hszD (Nat.le_refl _)))
      · have hil : ¬ (i : Int) < (K.length : Int) := by omega
        rcases HCA.out with ⟨rfl, hK0, hc0⟩ | ⟨gl, rfl, hKc, hcm⟩
        · obtain rfl : i = 0 := by omega
          subst hc0
          have hic : (0 : Int) ≤ 0 := by omega
          go_wp2_with fail
          refine wp_region_mix [false, false, false, false, false, false, false, false, false, false, false] (fun wx => QAt wx base gq gr A sec (.slice (none) K.length 0) (putsR L K)) (by kernel_rfl) (by kernel_rfl) (HQ.out.below (Below.refl _ _).drew) ?_
          refine m_move _ rfl (by rfl) ?_
          simp only [Act.put, List.setIfInBounds_toArray, List.set_cons_zero, List.set_cons_succ]
          refine m_value ?_ (by rfl) (fun w hw => ?_) ?_
          rotate_left
          · go_simp
            with_reducible rfl
          simp only [Act.put, List.setIfInBounds_toArray, List.set_cons_zero, List.set_cons_succ]
          refine m_value ?_ (by rfl) (fun w hw => ?_) ?_
          rotate_left
          · go_simp
            with_reducible rfl
          simp only [Act.put, List.setIfInBounds_toArray, List.set_cons_zero, List.set_cons_succ]
          refine m_value ?_ (by rfl) (fun w hw => ?_) ?_
          rotate_left
          · have hc := (hw.row.cell 3).trans (rfl : _ = some (Value.slice (none) K.length 0))
            go_simp
            with_reducible rfl
          simp only [Act.put, List.setIfInBounds_toArray, List.set_cons_zero, List.set_cons_succ]
          refine m_value ?_ (by rfl) (fun w hw => ?_) ?_
          rotate_left
          · go_simp
            with_reducible rfl
          simp only [Act.put, List.setIfInBounds_toArray, List.set_cons_zero, List.set_cons_succ]
          refine m_move _ rfl (by rfl) ?_
          simp only [Act.put, List.setIfInBounds_toArray, List.set_cons_zero, List.set_cons_succ]
          refine m_value ?_ (by rfl) (fun w hw => ?_) ?_
          rotate_left
          · go_simp
            with_reducible rfl
          simp only [Act.put, List.setIfInBounds_toArray, List.set_cons_zero, List.set_cons_succ]
          refine m_value ?_ (by rfl) (fun w hw => ?_) ?_
          rotate_left
          · go_simp
            with_reducible rfl
          simp only [Act.put, List.setIfInBounds_toArray, List.set_cons_zero, List.set_cons_succ]
          refine m_value ?_ (by rfl) (fun w hw => ?_) ?_
          rotate_left
          · have hc := (hw.row.cell 2).trans (rfl : _ = some (Value.int .i64 (sec : Int)))
            go_simp
            with_reducible rfl
          simp only [Act.put, List.setIfInBounds_toArray, List.set_cons_zero, List.set_cons_succ]
          refine m_value ?_ (by rfl) (fun w hw => ?_) ?_
          rotate_left
          · go_simp
            with_reducible rfl
          simp only [Act.put, List.setIfInBounds_toArray, List.set_cons_zero, List.set_cons_succ]
          refine m_value ?_ (by rfl) (fun w hw => ?_) ?_
          rotate_left
          · go_simp
            with_reducible rfl
          simp only [Act.put, List.setIfInBounds_toArray, List.set_cons_zero, List.set_cons_succ]
          refine m_done ?_
          try simp only [Exit.then]
          by_cases hbig : (sec : Int) - 1 ≤ (K.length : Int)
          · go_wp2
            go_ret
            exact .inl ⟨rfl, by omega, hbw.drew⟩
          · clear c2 c3
            obtain ⟨wD, hwD⟩ : ∃ wD, wD = wr.drew := ⟨_, rfl⟩
            have hbD : Below w.heap.size w wD := by rw [hwD]; exact hbw.drew
            have HQD : Hid (QAt wD base gq gr A sec (.slice (none) K.length 0) (putsR L K)) := by rw [hwD]; exact HQ.out.below (Below.refl _ _).drew
            rw [← hwD]
            clear hwD HQ hbw
            have hszD := hbD.size
            have HQD1 : Hid _ := HQD.out.below ((Below.refl wD.heap.size wD).alloc (Nat.le_refl _) (.cells #[] 86))
            have own0 : Hid ((wD.alloc (.cells #[] 86)).ownsRow wD.heap.size 86 2 (.slice (some ⟨wD.heap.size, 0, none⟩) 0 0) 0 []) := by
              have h := World.ownsRow_lit (base := wD.heap.size) (e := 86) (size := 2) wD #[] 0 (by simp) (by decide) rfl
              show World.ownsRow _ _ _ _ _ _ _
              simpa using h
            have c3 := (HQD1.out.row.cell 3).trans (rfl : _ = some (Value.slice (none) K.length 0))
            have hb1 : Below wD.heap.size wD (wD.alloc (.cells #[] 86)) := (Below.refl _ _).alloc (Nat.le_refl _) _
            have hcell1 : Hid (∀ j u, (rvCells ((putsR L K).take 0))[j]? = some u → (wD.alloc (.cells #[] 86)).cell? ⟨0, 0 + j, none⟩ = some u) := fun j u hj => by rw [List.take_zero] at hj; simp [rvCells] at hj
            have ht1 : ((putsR L K).take 0).length = 0 := by rw [List.length_take, hlen]; omega
            have ht3 : ((putsR L K).drop 0).length = 0 := by rw [List.length_drop, hlen, hK0]
            go_wp2_with (at_builtin; refine wpList_append_puts rfl (.tmp 93) (.tmp 99) rfl wD.heap.size _ 0 [] rfl own0 (none) (0) 0 ((putsR L K).take 0) 0 0 ht1 rfl (.inl rfl) (fun _ => ⟨by omega, rfl⟩) hcell1 (by omega) (by simp) ?_)
            intro v1 w3 own1 grow1
            have hb3 : Below wD.heap.size wD w3 := own_grown own0.out hb1 (by simp) grow1
            have hb3w : Below w.heap.size w w3 := hbD.trans (hb3.mono hszD)
            have hs3 := hb3.size
            have hcv : (convert 40 9 (.slice (some ⟨b, off, none⟩) 256 cap)).run Try.prog w3 = .ok (.string T) w3 := by rw [HT.out]; exact conv256 w3 b off cap f (HC.out w3 hb3w)
            have hone := one_put (n : Int) T
            have own1' : Hid ((w3.alloc (.cells #[.int .i64 (n : Int), .string T] 86)).ownsRow wD.heap.size 86 2 v1 0 (rvCells ((putsR L K).take 0))) := by
              show World.ownsRow _ _ _ _ _ _ _
              simpa using own1.out.alloc (.cells #[.int .i64 (n : Int), .string T] 86)
            have hcell2 : Hid (∀ j u, (rvCells [(⟨(n : Int), T⟩ : Rv)])[j]? = some u → (w3.alloc (.cells #[.int .i64 (n : Int), .string T] 86)).cell? ⟨w3.heap.size, 0 + j, none⟩ = some u) := fun j u hj => by
              rw [Nat.zero_add, (Row.new w3 #[.int .i64 (n : Int), .string T] 86).cell j]
              simpa [rvCells, Rv.cells] using hj
            clear own0 grow1 c3 hcell1 hb1 HQD1
            go_wp2_with (at_builtin; refine wpList_append_puts rfl (.tmp 101) (.tmp 106) rfl wD.heap.size v1 0 (rvCells ((putsR L K).take 0)) rfl own1' (some ⟨w3.heap.size, 0, none⟩) w3.heap.size 0 [(⟨(n : Int), T⟩ : Rv)] 1 1 rfl rfl (.inr rfl) (fun h => nomatch h) hcell2 (by omega) (by simp; omega) ?_)
            intro v2 w4 own2 grow2
            have hb4 : Below wD.heap.size wD w4 := own_grown own1'.out (hb3.alloc hs3 _) (by simp; omega) grow2
            have hb4w : Below w.heap.size w w4 := hbD.trans (hb4.mono hszD)
            have hs4 := hb4.size
            have HQ4 : Hid _ := HQD.out.below hb4
            have c3 := (HQ4.out.row.cell 3).trans (rfl : _ = some (Value.slice (none) K.length 0))
            have hcell3 : Hid (∀ j u, (rvCells ((putsR L K).drop 0))[j]? = some u → w4.cell? ⟨0, 0 * 2 + j, none⟩ = some u) := fun j u hj => by rw [List.drop_zero, List.eq_nil_of_length_eq_zero (hlen.trans hK0)] at hj; simp [rvCells] at hj
            clear own1 own1' grow2 hcell2 hcv hone
            go_wp2_with (at_builtin; refine wpList_append_puts rfl (.tmp 109) (.tmp 115) rfl wD.heap.size v2 (0 + 1) (rvCells ((putsR L K).take 0) ++ rvCells [(⟨(n : Int), T⟩ : Rv)]) rfl own2 none (0) (0 * 2) ((putsR L K).drop 0) 0 0 ht3 rfl (.inl rfl) (fun _ => ⟨by omega, rfl⟩) hcell3 (by omega) (by omega) ?_)
            intro v3 w5 own3 grow3
            have hb5 : Below wD.heap.size wD w5 := own_grown own2.out hb4 hs4 grow3
            have hb5w : Below w.heap.size w w5 := hbD.trans (hb5.mono hszD)
            have HQ5 : Hid _ := HQD.out.below hb5
            have c5 := (HQ5.out.row.cell 3).trans (rfl : _ = some (Value.slice (none) K.length 0))
            have hfz := HQ5.out.row.frozen 3
            obtain ⟨a3, c3', hv3, _⟩ := own_slice own3.out
            have HO3 : Hid _ := own3
            have HV3 : Hid _ := hv3
            clear own2 own3 grow3 hcell3 c3
            subst hv3
            go_wp2
            go_ret
            refine .inr ⟨rfl, by omega, _, ?_, w5, hb5w, rfl⟩
            have hP : (putsR L K).take 0 ++ ⟨(n : Int), T⟩ :: (putsR L K).drop 0 = (putsR L K).take 0 ++ [(⟨(n : Int), T⟩ : Rv)] ++ (putsR L K).drop 0 := by simp
            have hO := HO3.out
            exact qat_end HQ5.out hO (by simp [rvCells]) (by simp only [List.length_cons, hlen]; omega) (Nat.le_trans hbase (Nat.le_trans hszD (Nat.le_refl _)))
        · unfold maxLen at hcm
          have hic : (i : Int) ≤ (c : Int) := by omega
          by_cases hci : c = i
          · subst hci
            have hcc : c - c = 0 := by omega
            go_wp2_with fail
            refine wp_region_mix [false, false, false, false, false, false, false, false, false, false, false] (fun wx => QAt wx base gq gr A sec (.slice (some ⟨gl, 0, none⟩) K.length c) (putsR L K)) (by kernel_rfl) (by kernel_rfl) (HQ.out.below (Below.refl _ _).drew) ?_
            refine m_move _ rfl (by rfl) ?_
            simp only [Act.put, List.setIfInBounds_toArray, List.set_cons_zero, List.set_cons_succ]
            refine m_value ?_ (by rfl) (fun w hw => ?_) ?_
            rotate_left
            · go_simp
              with_reducible rfl
            simp only [Act.put, List.setIfInBounds_toArray, List.set_cons_zero, List.set_cons_succ]
            refine m_value ?_ (by rfl) (fun w hw => ?_) ?_
            rotate_left
            · go_simp
              with_reducible rfl
            simp only [Act.put, List.setIfInBounds_toArray, List.set_cons_zero, List.set_cons_succ]
            refine m_value ?_ (by rfl) (fun w hw => ?_) ?_
            rotate_left
            · have hc := (hw.row.cell 3).trans (rfl : _ = some (Value.slice (some ⟨gl, 0, none⟩) K.length c))
              go_simp
              with_reducible rfl
            simp only [Act.put, List.setIfInBounds_toArray, List.set_cons_zero, List.set_cons_succ]
            refine m_value ?_ (by rfl) (fun w hw => ?_) ?_
            rotate_left
            · go_simp
              with_reducible rfl
            simp only [Act.put, List.setIfInBounds_toArray, List.set_cons_zero, List.set_cons_succ]
            refine m_move _ rfl (by rfl) ?_
            simp only [Act.put, List.setIfInBounds_toArray, List.set_cons_zero, List.set_cons_succ]
            refine m_value ?_ (by rfl) (fun w hw => ?_) ?_
            rotate_left
            · go_simp
              with_reducible rfl
            simp only [Act.put, List.setIfInBounds_toArray, List.set_cons_zero, List.set_cons_succ]
            refine m_value ?_ (by rfl) (fun w hw => ?_) ?_
            rotate_left
            · go_simp
              with_reducible rfl
            simp only [Act.put, List.setIfInBounds_toArray, List.set_cons_zero, List.set_cons_succ]
            refine m_value ?_ (by rfl) (fun w hw => ?_) ?_
            rotate_left
            · have hc := (hw.row.cell 2).trans (rfl : _ = some (Value.int .i64 (sec : Int)))
              go_simp
              with_reducible rfl
            simp only [Act.put, List.setIfInBounds_toArray, List.set_cons_zero, List.set_cons_succ]
            refine m_value ?_ (by rfl) (fun w hw => ?_) ?_
            rotate_left
            · go_simp
              with_reducible rfl
            simp only [Act.put, List.setIfInBounds_toArray, List.set_cons_zero, List.set_cons_succ]
            refine m_value ?_ (by rfl) (fun w hw => ?_) ?_
            rotate_left
            · go_simp
              with_reducible rfl
            simp only [Act.put, List.setIfInBounds_toArray, List.set_cons_zero, List.set_cons_succ]
            refine m_done ?_
            try simp only [Exit.then]
            by_cases hbig : (sec : Int) - 1 ≤ (K.length : Int)
            · go_wp2
              go_ret
              exact .inl ⟨rfl, by omega, hbw.drew⟩
            · clear c2 c3
              obtain ⟨wD, hwD⟩ : ∃ wD, wD = wr.drew := ⟨_, rfl⟩
              have hbD : Below w.heap.size w wD := by rw [hwD]; exact hbw.drew
              have HQD : Hid (QAt wD base gq gr A sec (.slice (some ⟨gl, 0, none⟩) K.length c) (putsR L K)) := by rw [hwD]; exact HQ.out.below (Below.refl _ _).drew
              rw [← hwD]
              clear hwD HQ hbw
              have hszD := hbD.size
              have HQD1 : Hid _ := HQD.out.below ((Below.refl wD.heap.size wD).alloc (Nat.le_refl _) (.cells #[] 86))
              have own0 : Hid ((wD.alloc (.cells #[] 86)).ownsRow wD.heap.size 86 2 (.slice (some ⟨wD.heap.size, 0, none⟩) 0 0) 0 []) := by
                have h := World.ownsRow_lit (base := wD.heap.size) (e := 86) (size := 2) wD #[] 0 (by simp) (by decide) rfl
                show World.ownsRow _ _ _ _ _ _ _
                simpa using h
              have c3 := (HQD1.out.row.cell 3).trans (rfl : _ = some (Value.slice (some ⟨gl, 0, none⟩) K.length c))
              have hb1 : Below wD.heap.size wD (wD.alloc (.cells #[] 86)) := (Below.refl _ _).alloc (Nat.le_refl _) _
              have hcell1 : Hid (∀ j u, (rvCells ((putsR L K).take c))[j]? = some u → (wD.alloc (.cells #[] 86)).cell? ⟨gl, 0 + j, none⟩ = some u) := fun j u hj => by rw [Nat.zero_add]; exact (QAt.cellOf HQD1.out j u (rv_take _ _ _ _ hj))
              have ht1 : ((putsR L K).take c).length = c := by rw [List.length_take, hlen]; omega
              have ht3 : ((putsR L K).drop c).length = 0 := by rw [List.length_drop, hlen]; omega
              go_wp2_with (at_builtin; refine wpList_append_puts rfl (.tmp 93) (.tmp 99) rfl wD.heap.size _ 0 [] rfl own0 (some ⟨gl, 0, none⟩) (gl) 0 ((putsR L K).take c) c c ht1 rfl (.inr rfl) (fun h => nomatch h) hcell1 (by omega) (by simp) ?_)
              intro v1 w3 own1 grow1
              have hb3 : Below wD.heap.size wD w3 := own_grown own0.out hb1 (by simp) grow1
              have hb3w : Below w.heap.size w w3 := hbD.trans (hb3.mono hszD)
              have hs3 := hb3.size
              have hcv : (convert 40 9 (.slice (some ⟨b, off, none⟩) 256 cap)).run Try.prog w3 = .ok (.string T) w3 := by rw [HT.out]; exact conv256 w3 b off cap f (HC.out w3 hb3w)
              have hone := one_put (n : Int) T
              have own1' : Hid ((w3.alloc (.cells #[.int .i64 (n : Int), .string T] 86)).ownsRow wD.heap.size 86 2 v1 c (rvCells ((putsR L K).take c))) := by
                show World.ownsRow _ _ _ _ _ _ _
                simpa using own1.out.alloc (.cells #[.int .i64 (n : Int), .string T] 86)
              have hcell2 : Hid (∀ j u, (rvCells [(⟨(n : Int), T⟩ : Rv)])[j]? = some u → (w3.alloc (.cells #[.int .i64 (n : Int), .string T] 86)).cell? ⟨w3.heap.size, 0 + j, none⟩ = some u) := fun j u hj => by
                rw [Nat.zero_add, (Row.new w3 #[.int .i64 (n : Int), .string T] 86).cell j]
                simpa [rvCells, Rv.cells] using hj
              clear own0 grow1 c3 hcell1 hb1 HQD1
              go_wp2_with (at_builtin; refine wpList_append_puts rfl (.tmp 101) (.tmp 106) rfl wD.heap.size v1 c (rvCells ((putsR L K).take c)) rfl own1' (some ⟨w3.heap.size, 0, none⟩) w3.heap.size 0 [(⟨(n : Int), T⟩ : Rv)] 1 1 rfl rfl (.inr rfl) (fun h => nomatch h) hcell2 (by omega) (by simp; omega) ?_)
              intro v2 w4 own2 grow2
              have hb4 : Below wD.heap.size wD w4 := own_grown own1'.out (hb3.alloc hs3 _) (by simp; omega) grow2
              have hb4w : Below w.heap.size w w4 := hbD.trans (hb4.mono hszD)
              have hs4 := hb4.size
              have HQ4 : Hid _ := HQD.out.below hb4
              have c3 := (HQ4.out.row.cell 3).trans (rfl : _ = some (Value.slice (some ⟨gl, 0, none⟩) K.length c))
              have hcell3 : Hid (∀ j u, (rvCells ((putsR L K).drop c))[j]? = some u → w4.cell? ⟨gl, 0 + j, none⟩ = some u) := fun j u hj => by rw [List.drop_eq_nil_of_le (by rw [hlen]; omega)] at hj; simp [rvCells] at hj
              clear own1 own1' grow2 hcell2 hcv hone
              go_wp2_with (at_builtin; refine wpList_append_puts rfl (.tmp 109) (.tmp 115) rfl wD.heap.size v2 (c + 1) (rvCells ((putsR L K).take c) ++ rvCells [(⟨(n : Int), T⟩ : Rv)]) rfl own2 (some ⟨gl, 0, none⟩) (gl) 0 ((putsR L K).drop c) 0 0 ht3 rfl (.inr rfl) (fun h => nomatch h) hcell3 (by omega) (by omega) ?_)
              intro v3 w5 own3 grow3
              have hb5 : Below wD.heap.size wD w5 := own_grown own2.out hb4 hs4 grow3
              have hb5w : Below w.heap.size w w5 := hbD.trans (hb5.mono hszD)
              have HQ5 : Hid _ := HQD.out.below hb5
              have c5 := (HQ5.out.row.cell 3).trans (rfl : _ = some (Value.slice (some ⟨gl, 0, none⟩) K.length c))
              have hfz := HQ5.out.row.frozen 3
              obtain ⟨a3, c3', hv3, _⟩ := own_slice own3.out
              have HO3 : Hid _ := own3
              have HV3 : Hid _ := hv3
              clear own2 own3 grow3 hcell3 c3
              subst hv3
              go_wp2
              go_ret
              refine .inr ⟨rfl, by omega, _, ?_, w5, hb5w, rfl⟩
              have hP : (putsR L K).take c ++ ⟨(n : Int), T⟩ :: (putsR L K).drop c = (putsR L K).take c ++ [(⟨(n : Int), T⟩ : Rv)] ++ (putsR L K).drop c := by simp
              have hO := HO3.out
              exact qat_end HQ5.out hO (by simp [rvCells]) (by simp [hlen]; omega) (Nat.le_trans hbase (Nat.le_trans hszD (Nat.le_refl _)))
          · have hci2 : ¬ c - i = 0 := by omega
            go_wp2_with fail
            refine wp_region_mix [false, false, false, false, false, false, false, false, false, false, false] (fun wx => QAt wx base gq gr A sec (.slice (some ⟨gl, 0, none⟩) K.length c) (putsR L K)) (by kernel_rfl) (by kernel_rfl) (HQ.out.below (Below.refl _ _).drew) ?_
            refine m_move _ rfl (by rfl) ?_
            simp only [Act.put, List.setIfInBounds_toArray, List.set_cons_zero, List.set_cons_succ]
            refine m_value ?_ (by rfl) (fun w hw => ?_) ?_
            rotate_left
            · go_simp
              with_reducible rfl
            simp only [Act.put, List.setIfInBounds_toArray, List.set_cons_zero, List.set_cons_succ]
            refine m_value ?_ (by rfl) (fun w hw => ?_) ?_
            rotate_left
            · go_simp
              with_reducible rfl
            simp only [Act.put, List.setIfInBounds_toArray, List.set_cons_zero, List.set_cons_succ]
            refine m_value ?_ (by rfl) (fun w hw => ?_) ?_
            rotate_left
            · have hc := (hw.row.cell 3).trans (rfl : _ = some (Value.slice (some ⟨gl, 0, none⟩) K.length c))
              go_simp
              with_reducible rfl
            simp only [Act.put, List.setIfInBounds_toArray, List.set_cons_zero, List.set_cons_succ]
            refine m_value ?_ (by rfl) (fun w hw => ?_) ?_
            rotate_left
            · go_simp
              with_reducible rfl
            simp only [Act.put, List.setIfInBounds_toArray, List.set_cons_zero, List.set_cons_succ]
            refine m_move _ rfl (by rfl) ?_
            simp only [Act.put, List.setIfInBounds_toArray, List.set_cons_zero, List.set_cons_succ]
            refine m_value ?_ (by rfl) (fun w hw => ?_) ?_
            rotate_left
            · go_simp
              with_reducible rfl
            simp only [Act.put, List.setIfInBounds_toArray, List.set_cons_zero, List.set_cons_succ]
            refine m_value ?_ (by rfl) (fun w hw => ?_) ?_
            rotate_left
            · go_simp
              with_reducible rfl
            simp only [Act.put, List.setIfInBounds_toArray, List.set_cons_zero, List.set_cons_succ]
            refine m_value ?_ (by rfl) (fun w hw => ?_) ?_
            rotate_left
            · have hc := (hw.row.cell 2).trans (rfl : _ = some (Value.int .i64 (sec : Int)))
              go_simp
              with_reducible rfl
            simp only [Act.put, List.setIfInBounds_toArray, List.set_cons_zero, List.set_cons_succ]
            refine m_value ?_ (by rfl) (fun w hw => ?_) ?_
            rotate_left
            · go_simp
              with_reducible rfl
            simp only [Act.put, List.setIfInBounds_toArray, List.set_cons_zero, List.set_cons_succ]
            refine m_value ?_ (by rfl) (fun w hw => ?_) ?_
            rotate_left
            · go_simp
              with_reducible rfl
            simp only [Act.put, List.setIfInBounds_toArray, List.set_cons_zero, List.set_cons_succ]
            refine m_done ?_
            try simp only [Exit.then]
            by_cases hbig : (sec : Int) - 1 ≤ (K.length : Int)
            · go_wp2
              go_ret
              exact .inl ⟨rfl, by omega, hbw.drew⟩
            · clear c2 c3
              obtain ⟨wD, hwD⟩ : ∃ wD, wD = wr.drew := ⟨_, rfl⟩
              have hbD : Below w.heap.size w wD := by rw [hwD]; exact hbw.drew
              have HQD : Hid (QAt wD base gq gr A sec (.slice (some ⟨gl, 0, none⟩) K.length c) (putsR L K)) := by rw [hwD]; exact HQ.out.below (Below.refl _ _).drew
              rw [← hwD]
              clear hwD HQ hbw
              have hszD := hbD.size
              have HQD1 : Hid _ := HQD.out.below ((Below.refl wD.heap.size wD).alloc (Nat.le_refl _) (.cells #[] 86))
              have own0 : Hid ((wD.alloc (.cells #[] 86)).ownsRow wD.heap.size 86 2 (.slice (some ⟨wD.heap.size, 0, none⟩) 0 0) 0 []) := by
                have h := World.ownsRow_lit (base := wD.heap.size) (e := 86) (size := 2) wD #[] 0 (by simp) (by decide) rfl
                show World.ownsRow _ _ _ _ _ _ _
                simpa using h
              have c3 := (HQD1.out.row.cell 3).trans (rfl : _ = some (Value.slice (some ⟨gl, 0, none⟩) K.length c))
              have hb1 : Below wD.heap.size wD (wD.alloc (.cells #[] 86)) := (Below.refl _ _).alloc (Nat.le_refl _) _
              have hcell1 : Hid (∀ j u, (rvCells ((putsR L K).take i))[j]? = some u → (wD.alloc (.cells #[] 86)).cell? ⟨gl, 0 + j, none⟩ = some u) := fun j u hj => by rw [Nat.zero_add]; exact (QAt.cellOf HQD1.out j u (rv_take _ _ _ _ hj))
              have ht1 : ((putsR L K).take i).length = i := by rw [List.length_take, hlen]; omega
              have ht3 : ((putsR L K).drop i).length = K.length - i := by rw [List.length_drop, hlen]
              go_wp2_with (at_builtin; refine wpList_append_puts rfl (.tmp 93) (.tmp 99) rfl wD.heap.size _ 0 [] rfl own0 (some ⟨gl, 0, none⟩) (gl) 0 ((putsR L K).take i) i c ht1 rfl (.inr rfl) (fun h => nomatch h) hcell1 (by omega) (by simp) ?_)
              intro v1 w3 own1 grow1
              have hb3 : Below wD.heap.size wD w3 := own_grown own0.out hb1 (by simp) grow1
              have hb3w : Below w.heap.size w w3 := hbD.trans (hb3.mono hszD)
              have hs3 := hb3.size
              have hcv : (convert 40 9 (.slice (some ⟨b, off, none⟩) 256 cap)).run Try.prog w3 = .ok (.string T) w3 := by rw [HT.out]; exact conv256 w3 b off cap f (HC.out w3 hb3w)
              have hone := one_put (n : Int) T
              have own1' : Hid ((w3.alloc (.cells #[.int .i64 (n : Int), .string T] 86)).ownsRow wD.heap.size 86 2 v1 i (rvCells ((putsR L K).take i))) := by
                show World.ownsRow _ _ _ _ _ _ _
                simpa using own1.out.alloc (.cells #[.int .i64 (n : Int), .string T] 86)
              have hcell2 : Hid (∀ j u, (rvCells [(⟨(n : Int), T⟩ : Rv)])[j]? = some u → (w3.alloc (.cells #[.int .i64 (n : Int), .string T] 86)).cell? ⟨w3.heap.size, 0 + j, none⟩ = some u) := fun j u hj => by
                rw [Nat.zero_add, (Row.new w3 #[.int .i64 (n : Int), .string T] 86).cell j]
                simpa [rvCells, Rv.cells] using hj
              clear own0 grow1 c3 hcell1 hb1 HQD1
              go_wp2_with (at_builtin; refine wpList_append_puts rfl (.tmp 101) (.tmp 106) rfl wD.heap.size v1 i (rvCells ((putsR L K).take i)) rfl own1' (some ⟨w3.heap.size, 0, none⟩) w3.heap.size 0 [(⟨(n : Int), T⟩ : Rv)] 1 1 rfl rfl (.inr rfl) (fun h => nomatch h) hcell2 (by omega) (by simp; omega) ?_)
              intro v2 w4 own2 grow2
              have hb4 : Below wD.heap.size wD w4 := own_grown own1'.out (hb3.alloc hs3 _) (by simp; omega) grow2
              have hb4w : Below w.heap.size w w4 := hbD.trans (hb4.mono hszD)
              have hs4 := hb4.size
              have HQ4 : Hid _ := HQD.out.below hb4
              have c3 := (HQ4.out.row.cell 3).trans (rfl : _ = some (Value.slice (some ⟨gl, 0, none⟩) K.length c))
              have hcell3 : Hid (∀ j u, (rvCells ((putsR L K).drop i))[j]? = some u → w4.cell? ⟨gl, i * 2 + j, none⟩ = some u) := fun j u hj => by rw [rv_drop _ _ _ (by rw [hlen]; omega)] at hj; exact QAt.cellOf HQ4.out _ u hj
              clear own1 own1' grow2 hcell2 hcv hone
              go_wp2_with (at_builtin; refine wpList_append_puts rfl (.tmp 109) (.tmp 115) rfl wD.heap.size v2 (i + 1) (rvCells ((putsR L K).take i) ++ rvCells [(⟨(n : Int), T⟩ : Rv)]) rfl own2 (some ⟨gl, i * 2, none⟩) (gl) (i * 2) ((putsR L K).drop i) (K.length - i) (c - i) ht3 rfl (.inr rfl) (fun h => nomatch h) hcell3 (by omega) (by omega) ?_)
              intro v3 w5 own3 grow3
              have hb5 : Below wD.heap.size wD w5 := own_grown own2.out hb4 hs4 grow3
              have hb5w : Below w.heap.size w w5 := hbD.trans (hb5.mono hszD)
              have HQ5 : Hid _ := HQD.out.below hb5
              have c5 := (HQ5.out.row.cell 3).trans (rfl : _ = some (Value.slice (some ⟨gl, 0, none⟩) K.length c))
              have hfz := HQ5.out.row.frozen 3
              obtain ⟨a3, c3', hv3, _⟩ := own_slice own3.out
              have HO3 : Hid _ := own3
              have HV3 : Hid _ := hv3
              clear own2 own3 grow3 hcell3 c3
              subst hv3
              go_wp2
              go_ret
              refine .inr ⟨rfl, by omega, _, ?_, w5, hb5w, rfl⟩
              have hP : (putsR L K).take i ++ ⟨(n : Int), T⟩ :: (putsR L K).drop i = (putsR L K).take i ++ [(⟨(n : Int), T⟩ : Rv)] ++ (putsR L K).drop i := by simp
              have hO := HO3.out
              exact qat_end HQ5.out hO (by simp [rvCells]) (by simp [hlen]; omega) (Nat.le_trans hbase (Nat.le_trans hszD (Nat.le_refl _)))
end Go.Proofs.Ytlbapnecmhlgmaa
