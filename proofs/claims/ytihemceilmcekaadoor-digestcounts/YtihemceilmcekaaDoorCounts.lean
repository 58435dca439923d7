/- The walk of the law DigestCounts. -/
import Derived.Test.YtihemceilmcekaaDoorCount
import Derived.Test.YtihemceilmcekaaDoorQuiet
import Derived.Test.YtihemceilmcekaaDoorRefShort
import Derived.Deep.DeepAppendWide
import Derived.Great.FillDense
import Derived.Great.BuildSlice
namespace Go.Proofs.YtihemceilmcekaaDoor
open Go.RowKit Go.Great

/-- n digests as cells. -/
def flatD (g : Nat → Nat → Int) (n : Nat) : List Value := (List.range n).flatMap fun i => (arr (g i) 32).toList
theorem flatD_succ (g : Nat → Nat → Int) (n : Nat) : flatD g (n + 1) = flatD g n ++ (arr (g n) 32).toList := by simp [flatD, List.range_succ]
theorem flatD_len (g : Nat → Nat → Int) (n : Nat) : (flatD g n).length = n * 32 := by
  induction n with
  | zero => rfl
  | succ n ih => rw [flatD_succ, List.length_append, ih, Array.length_toList, arr_size]; omega
theorem flatD_at (g : Nat → Nat → Int) (n i j : Nat) (hi : i < n) (hj : j < 32) : (flatD g n)[i * 32 + j]? = (arr (g i) 32)[j]? := by
  induction n with
  | zero => omega
  | succ n ih =>
    rw [flatD_succ]
    by_cases h : i < n
    · rw [List.getElem?_append_left (by rw [flatD_len]; omega)]
      exact ih h
    · obtain rfl : i = n := by omega
      rw [List.getElem?_append_right (by rw [flatD_len]; omega), flatD_len, show i * 32 + j - i * 32 = j by omega, Array.getElem?_toList]

theorem info24b : (Tryd.prog.info? 24).map (fun i => (i.zero, i.size, i.bytes)) = some (some (.agg zeros32), 32, 32) := by kernel_rfl

section
variable {ops : Array Oper} {rest : List Oper} {o : Oper} {a : Act} {w : World} {Q : Exit → Act → World → Prop}
theorem one_digest (A : Array Value) (hA : A.size = 32) (w : World) : (Instr.buildSlice 40 1 #[(0, .agg A)]).run Tryd.prog w = .ok (.slice (some ⟨w.heap.size, 0, none⟩) 1 1) (w.alloc (.cells A 24)) := by
  obtain ⟨i0, hi, hz0, hz1, _⟩ := info_parts info24b
  refine run_buildSlice w 40 24 1 _ _ i0 _ Tryd.underlying40 hi hz0 (by rw [hz1]; decide) (by rw [hz1]; decide) ?_
  have h := fill_whole (s := 32) (by decide) [.agg A] ((Array.range (1 * i0.size)).map ((Value.agg zeros32).cells[· % (Value.agg zeros32).cells.size]!)) (fun v hv => by simp at hv; subst hv; exact hA) (by simp [hz1])
  rw [hz1] at h ⊢
  simpa [Value.cells] using h
theorem wpList_one (hgd : o.guard = none) (x : Operand) (ho : o.op = .buildSlice 40 1 #[(0, x)]) (A : Array Value) (hx : a.eval x = .agg A) (hA : A.size = 32) (k : wpList Tryd.prog ops Q rest (a.put o.dst (.slice (some ⟨w.heap.size, 0, none⟩) 1 1)) (w.alloc (.cells A 24))) : wpList Tryd.prog ops Q (o :: rest) a w :=
  wpList_plain hgd fun K hK => by
    unfold Oper.wp execOp
    simp only [ho, List.map_toArray, List.map_cons, List.map_nil, hx, Sem.run_bind, one_digest A hA w, Result.andThen_ok]
    exact hK _ _ k
end
section
variable {P : Program} {ops : Array Oper} {C : World → Prop} {Q : Act → Prop} {a : Act} {o : Oper} {rest : List Oper}
theorem q_load_mid (ty : TypeId) (x : Operand) (ho : o.op = .load ty x) (hw : Region.wanted o (yielded ops a.tmps) = true) (b off : Nat) (hx : a.eval x = .pointer (some ⟨b, off, none⟩)) (cs : List Value) (d : TypeDesc)
    (hC : ∀ w, C w → w.rangeAt b off cs) (hu : P.underlying ty = some d) (hd : d.isRow = true) (hi : (P.info? ty).map (·.size) = some cs.length)
    (k : wpQuiet P ops C Q rest (a.put o.dst (.agg cs.toArray))) : wpQuiet P ops C Q (o :: rest) a :=
  q_value (.agg cs.toArray) hw (fun w hw' => by
    unfold execOp
    simp only [ho, hx, Instr.loadAt, Instr.sureAddr, Sem.run_bind, Sem.run_pure, Result.andThen_ok, run_loadVar_mid w b off ty cs d (hC w hw') hu hd hi]) k
end

theorem own_grown24 {B : Nat} {w wr w1 : World} {e : TypeId} {s : Nat} {v : Value} {n : Nat} {xs : List Value} (hown : wr.ownsRow B e s v n xs) (hb : Below B w wr) (hB : B ≤ wr.heap.size) (hgrow : wr.grownBy w1 v.ownBlock) : Below B w w1 := by
  refine hb.grown hgrow hB (fun r hr => ?_)
  obtain ⟨_, ⟨rfl, _⟩ | ⟨g', cap, cur, rfl, hle, _⟩⟩ := hown
  · cases hr
  · simp [Value.ownBlock] at hr; omega
theorem ownsRow_below24 {w w' : World} {B n s : Nat} {e : TypeId} {v : Value} {xs : List Value} (h : w.ownsRow B e s v n xs) (hb : Below w.heap.size w w') : w'.ownsRow B e s v n xs := by
  obtain ⟨h1, h2 | ⟨g, cap, cur, e1, e2, e3, e4⟩⟩ := h
  · exact ⟨h1, .inl h2⟩
  · obtain ⟨hlt, _⟩ := Array.getElem?_eq_some_iff.1 e3
    exact ⟨h1, .inr ⟨g, cap, cur, e1, e2, (hb.block g hlt).trans e3, e4⟩⟩

theorem wpList_more {ops : Array Oper} {rest : List Oper} {o : Oper} {a : Act} {w : World} {Q : Exit → Act → World → Prop} {A : Array Value} (hgd : o.guard = none) (s x : Operand) (ho : o.op = .call { callee := .builtin .append, args := #[s, x], argTypes := #[40, 40] }) (base : Nat) (v : Value) (n : Nat) (xs : List Value)
    (W : World) (hw : w = W.alloc (.cells A 24)) (hs : a.eval s = v) (hown : Hid (W.ownsRow base 24 32 v n xs)) (hA : A.size = 32) (hA1 : A.all (·.oneCell') = true) (hx : a.eval x = .slice (some ⟨W.heap.size, 0, none⟩) 1 1) (hn : n ≤ 1000) (hbase : base ≤ W.heap.size)
    (h : ∀ v' w', Hid (w'.ownsRow base 24 32 v' (n + 1) (xs ++ A.toList)) → (∀ w0, Below base w0 W → Below base w0 w') → wpList Tryd.prog ops Q rest (a.put o.dst v') w') : wpList Tryd.prog ops Q (o :: rest) a w := by
  subst hw
  obtain ⟨i0, hi, hz0, hz1, hz2⟩ := info_parts info24b
  have own' : (W.alloc (.cells A 24)).ownsRow base 24 32 v n xs := World.ownsRow.alloc (show W.ownsRow base 24 32 v n xs from hown) _
  refine wpList_append_own_wide _ hgd s x 40 ho base 24 i0 (.agg zeros32) 32 32 Tryd.underlying40 hi hz0 hz1 hz2 rfl (by decide) v n xs hs own' _ 1 1 A.toList hx (by simp [hA]) (fun y u hu => ?_) (fun u hu => Array.all_eq_true_iff_forall_mem.1 hA1 u (by simpa using hu)) (by unfold maxLen; omega) (by omega) (by simp; omega) (fun v' w' h1 h2 _ => h v' w' h1 (fun w0 hb => ?_))
  · have hc : (W.alloc (.cells A 24)).cell? ⟨W.heap.size, y, none⟩ = A[y]? := cell_of_row _ _ _ A 24 (0, 0) (heap_alloc_new W _)
    rw [Addr.add_mid, Nat.zero_add, hc, ← Array.getElem?_toList, hu]
  · exact own_grown24 own' (hb.alloc hbase _) (by simp; omega) h2

theorem Ds.below {w wr : World} {a : Option Addr} {b off len : Nat} {g : Nat → Nat → Int} (h : Ds w a b off len g) (hb : Below w.heap.size w wr) : Ds wr a b off len g :=
  ⟨h.at', fun i hi x v hv => by
    have hc := h.range i hi x v hv
    rw [hb.cell (p := ⟨b, off + i * 32 + x, none⟩) (World.block_lt_of_cell? _ _ hc)]
    exact hc⟩

/-- Numbers that came in. -/
structure Is (w : World) (a : Option Addr) (b off len : Nat) (z : Nat → Int) : Prop where
  at' : 0 < len → a = some ⟨b, off, none⟩
  cell : ∀ i, i < len → w.cell? ⟨b, off + i, none⟩ = some (.int .i64 (z i))
  bd : ∀ i, -9223372036854775808 ≤ z i ∧ z i ≤ 9223372036854775807
theorem Is.below {w wr : World} {a : Option Addr} {b off len : Nat} {z : Nat → Int} (h : Is w a b off len z) (hb : Below w.heap.size w wr) : Is wr a b off len z :=
  ⟨h.at', fun i hi => by
    have hc := h.cell i hi
    rw [hb.cell (p := ⟨b, off + i, none⟩) (World.block_lt_of_cell? _ _ hc)]
    exact hc, h.bd⟩

/-- Which digest is told again. -/
def ix (len : Nat) (z : Int) : Nat := ((z.tmod len + len).tmod len).toNat
/-- All digests: those of the list, and then those that are told again. -/
def allD (g : Nat → Nat → Int) (len : Nat) (z : Nat → Int) (i : Nat) : Nat → Int := if i < len then g i else g (ix len (z (i - len)))
theorem cnt_congr (g h : Nat → Nat → Int) (n : Nat) (e : ∀ i, i < n → g i = h i) : cnt g n = cnt h n := by
  induction n with
  | zero => rfl
  | succ n ih =>
    have hf : fresh g n n = fresh h n n := by
      unfold fresh
      rw [Bool.eq_iff_iff, List.all_eq_true, List.all_eq_true]
      constructor
      · intro hh j hj
        have hj' : j < n := by simpa using hj
        have := hh j hj
        rw [e j (by omega), e n (by omega)] at this
        exact this
      · intro hh j hj
        have hj' : j < n := by simpa using hj
        have := hh j hj
        rw [← e j (by omega), ← e n (by omega)] at this
        exact this
    simp only [cnt, hf, ih (fun i hi => e i (by omega))]

theorem ix_spec (len : Nat) (z : Int) (h : 0 < len) : ∃ q : Int, z.tmod len = q ∧ -(len : Int) < q ∧ q < len ∧ (q + len).tmod len = (ix len z : Int) ∧ ix len z < len := by
  have hl : (0 : Int) < len := by omega
  have h1 : -(len : Int) < z.tmod len := by
    have := Int.lt_tmod_of_pos z hl
    omega
  have h2 : z.tmod len < len := Int.tmod_lt_of_pos z hl
  have h3 : (0 : Int) ≤ z.tmod len + len := by omega
  have h4 : (z.tmod len + len).tmod len = (z.tmod len + len) % len := Int.tmod_eq_emod_of_nonneg h3
  have h5 := Int.emod_nonneg (z.tmod len + len) (show (len : Int) ≠ 0 by omega)
  have h6 := Int.emod_lt_of_pos (z.tmod len + len) hl
  refine ⟨_, rfl, h1, h2, ?_, ?_⟩ <;> unfold ix <;> omega

theorem own_ds {w : World} {base n : Nat} {v : Value} {g : Nat → Nat → Int} (h : w.ownsRow base 24 32 v n (flatD g n)) : ∃ a b c, v = .slice a n c ∧ Ds w a b 0 n g := by
  have h' := h
  obtain ⟨_, ⟨rfl, rfl⟩ | ⟨b, c, cur, rfl, _⟩⟩ := h'
  · exact ⟨none, 0, 0, rfl, ⟨fun h => absurd h (by omega), fun i hi => absurd hi (by omega)⟩⟩
  · refine ⟨_, b, c, rfl, ⟨fun _ => rfl, fun i hi x u hu => ?_⟩⟩
    have hx : x < 32 := by
      have := (List.getElem?_eq_some_iff.1 hu).1
      simpa [arr_size] using this
    rw [Nat.zero_add, h.cellAt (i * 32 + x) (by omega), flatD_at g n i x hi hx, ← Array.getElem?_toList, hu]

set_option maxRecDepth 20000 in
set_option maxHeartbeats 4000000 in
theorem law_counts (a : Option Addr) (b off len cap : Nat) (g : Nat → Nat → Int) (ta : Option Addr) (tb toff tlen tcap : Nat) (z : Nat → Int) (S : Array Value) (w : World) (hD : Ds w a b off len g) (hT : Is w ta tb toff tlen z)
    (hlen : len ≤ 200) (htlen : tlen ≤ 200) (hS : S.size = 32) (hS1 : S.all (·.oneCell') = true) (hS0 : S[0]? = some (.int .u8 227)) (hS31 : S[31]? = some (.int .u8 85))
    (HSum : ∀ wr, Below w.heap.size w wr → Calls Tryd.prog 8 #[.slice none 0 0] wr fun e w' => e = .returned (.agg S) ∧ Below wr.heap.size wr w')
    (HDis : ∀ wr v m, wr.ownsRow w.heap.size 24 32 v m (flatD (allD g len z) m) → len ≤ m → m ≤ 400 → (len = 0 → m = 0) → Calls Tryd.prog 16 #[v] wr fun e w' => e = .returned (.int .i64 (cnt g len)) ∧ Below wr.heap.size wr w')
    (HDn : ∀ wr, Calls Tryd.prog 16 #[.slice none 0 0] wr fun e w' => e = .returned (.int .i64 0) ∧ Below wr.heap.size wr w') :
    Calls Tryd.prog 6 #[.slice a len cap, .slice ta tlen tcap] w fun e w' => e = .returned (.bool true) ∧ Below w.heap.size w w' := by
  have HD : Hid _ := hD
  have HT : Hid _ := hT
  have HSU : Hid _ := HSum
  have HDI : Hid _ := HDis
  have HDN : Hid _ := HDn
  clear hD hT HSum HDis HDn
  go_enter Tryd.func6, Tryd.ntmps6
  go_wp2
  go_loopw [5, 6, 7] (fun v c i wr => ∃ j : Nat, j ≤ len ∧ i = .int .i64 j ∧ c = .int .i64 (cnt g j) ∧ Hid (wr.ownsRow w.heap.size 24 32 v j (flatD (allD g len z) j)) ∧ Below w.heap.size w wr) (fun _ _ i _ => len - (intOf i).toNat)
  case atStart => exact ⟨0, Nat.zero_le _, rfl, rfl, World.ownsRow_nil _ _ _ _, Below.refl _ _⟩
  case round =>
    obtain ⟨j, hj, rfl, rfl, own, hb⟩ := hrel
    have hs := hb.size
    have hcl := cnt_le g j
    by_cases hlt : j < len
    · obtain rfl := HD.out.at' (by omega)
      go_wp2
      go_loopw [8, 9] (fun f k wq => ∃ x : Nat, x ≤ j ∧ k = .int .i64 x ∧ f = .bool (fresh g x j) ∧ Hid (wq.ownsRow w.heap.size 24 32 u5 j (flatD (allD g len z) j)) ∧ Below w.heap.size w wq) (fun _ k _ => j - (intOf k).toNat)
      case atStart => exact ⟨0, Nat.zero_le _, rfl, rfl, own, hb⟩
      case round =>
        obtain ⟨x, hx, rfl, rfl, ownq, hbq⟩ := hrel
        by_cases hxl : x < j
        · have hDq := HD.out.below hbq
          have r1 := hDq.range x (by omega)
          have r2 := hDq.range j hlt
          have hxlen : x < len := by omega
          have heq : ∀ w : World, (Op.equalIn 10000 23 (.agg (arr (g x) 32)) (.agg (arr (g j) 32))).run Tryd.prog w = .ok (same 32 (g x) (g j)) w := fun w => eq_arr (g x) (g j) 23 Tryd.underlying23 w
          have hfs := fresh_succ g x j
          have HFS : Hid _ := hfs
          have R1 : Hid _ := r1
          have R2 : Hid _ := r2
          have hl1 : (Tryd.prog.info? 23).map (·.size) = some (arr (g x) 32).toList.length := by rw [Array.length_toList, arr_size]; exact info23
          have hl2 : (Tryd.prog.info? 23).map (·.size) = some (arr (g j) 32).toList.length := by rw [Array.length_toList, arr_size]; exact info23
          clear hfs r1 r2 hDq
          go_wp2_with fail
          generalize hA1 : arr (g x) 32 = A1 at *
          generalize hA2 : arr (g j) 32 = A2 at *
          generalize same 32 (g x) (g j) = sm at *
          refine wp_region_quiet (C := fun wx => wx.rangeAt b (off + x * 32) A1.toList ∧ wx.rangeAt b (off + j * 32) A2.toList ∧ wx.ownsRow w.heap.size 24 32 u5 j (flatD (allD g len z) j) ∧ Below w.heap.size w wx) (by kernel_rfl) (by kernel_rfl) ⟨R1.out, R2.out, ownsRow_below24 ownq (Below.refl _ _).drew, hbq.drew⟩ ?_
          simp only []
          refine q_move _ rfl (by rfl) ?_
          simp only [Act.put, List.setIfInBounds_toArray, List.set_cons_zero, List.set_cons_succ]
          refine q_move _ rfl (by rfl) ?_
          simp only [Act.put, List.setIfInBounds_toArray, List.set_cons_zero, List.set_cons_succ]
          refine q_value ?_ (by rfl) (fun w hw => ?_) ?_
          rotate_left
          · go_simp
            with_reducible rfl
          simp only [Act.put, List.setIfInBounds_toArray, List.set_cons_zero, List.set_cons_succ]
          refine q_load_mid 23 _ rfl (by rfl) b (off + x * 32) rfl A1.toList _ (fun w h => h.1) Tryd.underlying23 rfl hl1 ?_
          simp only [Act.put, List.setIfInBounds_toArray, List.set_cons_zero, List.set_cons_succ]
          refine q_move _ rfl (by rfl) ?_
          simp only [Act.put, List.setIfInBounds_toArray, List.set_cons_zero, List.set_cons_succ]
          refine q_move _ rfl (by rfl) ?_
          simp only [Act.put, List.setIfInBounds_toArray, List.set_cons_zero, List.set_cons_succ]
          refine q_value ?_ (by rfl) (fun w hw => ?_) ?_
          rotate_left
          · go_simp
            with_reducible rfl
          simp only [Act.put, List.setIfInBounds_toArray, List.set_cons_zero, List.set_cons_succ]
          refine q_load_mid 23 _ rfl (by rfl) b (off + j * 32) rfl A2.toList _ (fun w h => h.2.1) Tryd.underlying23 rfl hl2 ?_
          simp only [Act.put, List.setIfInBounds_toArray, List.set_cons_zero, List.set_cons_succ]
          refine q_value ?_ (by rfl) (fun w hw => ?_) ?_
          rotate_left
          · go_simp
            with_reducible rfl
          simp only [Act.put, List.setIfInBounds_toArray, List.set_cons_zero, List.set_cons_succ]
          refine wpQuiet_nil ?_
          intro w' hw'
          simp only [Exit.then]
          cases sm with
          | true =>
            go_wp2
            go_roundw
            case rel => exact ⟨x + 1, by omega, by go_num, by rw [HFS.out]; simp, hw'.2.2.1, hw'.2.2.2⟩
            case measure => simp [intOf]; omega
          | false =>
            go_wp2
            go_roundw
            case rel => exact ⟨x + 1, by omega, by go_num, by rw [HFS.out]; simp, hw'.2.2.1, hw'.2.2.2⟩
            case measure => simp [intOf]; omega
        · have hxj : x = j := by omega
          subst x
          have hsq := hbq.size
          have r2 := (HD.out.below hbq).range j hlt
          have R2 : Hid _ := r2
          have hl2 : (Tryd.prog.info? 23).map (·.size) = some (arr (g j) 32).toList.length := by rw [Array.length_toList, arr_size]; exact info23
          have hA2s : (arr (g j) 32).size = 32 := arr_size _ _
          have hA2o := arr_one (g j) 32
          have hcs : cnt g (j + 1) = if fresh g j j then cnt g j + 1 else cnt g j := rfl
          have HCS : Hid _ := hcs
          have hfl : flatD (allD g len z) (j + 1) = flatD (allD g len z) j ++ (arr (g j) 32).toList := by rw [flatD_succ]; unfold allD; rw [if_pos hlt]
          have HFL : Hid _ := hfl
          have hfll := flatD_len (allD g len z) j
          clear r2 hcs hfl hxl hx
          generalize arr (g j) 32 = A2 at *
          generalize flatD (allD g len z) j = FX at *
          generalize fresh g j j = fr at *
          have hj1000 : j ≤ 1000 := by omega
          cases fr with
          | true =>
            go_wp2_with (first
              | (refine wpList_load_mid rfl 23 _ rfl b (off + j * 32) rfl A2.toList _ R2.out Tryd.underlying23 rfl hl2 ?_; simp only [Array.toArray_toList])
              | refine wpList_one rfl _ rfl A2 rfl hA2s ?_
              | (at_builtin; refine wpList_more rfl _ _ rfl w.heap.size u5 j FX _ rfl rfl ownq hA2s hA2o rfl hj1000 hsq ?_))
            intro v2 w2 own2 grow2
            have hb2 : Below w.heap.size w w2 := grow2 w hbq
            rw [← HFL.out] at own2
            clear grow2
            go_wp2
            go_roundw
            case rel => exact ⟨j + 1, by omega, by go_num, by rw [HCS.out]; go_num, own2, hb2⟩
            case measure => simp [intOf]; omega
          | false =>
            go_wp2_with (first
              | (refine wpList_load_mid rfl 23 _ rfl b (off + j * 32) rfl A2.toList _ R2.out Tryd.underlying23 rfl hl2 ?_; simp only [Array.toArray_toList])
              | refine wpList_one rfl _ rfl A2 rfl hA2s ?_
              | (at_builtin; refine wpList_more rfl _ _ rfl w.heap.size u5 j FX _ rfl rfl ownq hA2s hA2o rfl hj1000 hsq ?_))
            intro v2 w2 own2 grow2
            have hb2 : Below w.heap.size w w2 := grow2 w hbq
            rw [← HFL.out] at own2
            clear grow2
            go_wp2
            go_roundw
            case rel => exact ⟨j + 1, by omega, by go_num, by rw [HCS.out]; go_num, own2, hb2⟩
            case measure => simp [intOf]; omega
    · have hjl : j = len := by omega
      subst j
      clear hlt hj
      go_wp2
      go_loopw [5, 10] (fun v i wq => ∃ t : Nat, t ≤ tlen ∧ i = .int .i64 t ∧ Hid (len = 0 → t = 0) ∧ Hid (wq.ownsRow w.heap.size 24 32 v (len + t) (flatD (allD g len z) (len + t))) ∧ Below w.heap.size w wq) (fun _ i _ => tlen - (intOf i).toNat)
      case atStart => exact ⟨0, Nat.zero_le _, rfl, fun _ => rfl, own, hb⟩
      case round =>
        obtain ⟨t, ht, rfl, ht0, ownq, hbq⟩ := hrel
        have hsq := hbq.size
        by_cases hc : t < tlen ∧ 0 < len
        · obtain ⟨htl, hl0⟩ := hc
          obtain rfl := HD.out.at' hl0
          obtain rfl := HT.out.at' (by omega)
          have hcell := (HT.out.below hbq).cell t htl
          have hbd := HT.out.bd t
          obtain ⟨q, hq1, hq2, hq3, hq4, hq5⟩ := ix_spec len (z t) hl0
          have hlz : ¬ ((len : Int) = 0) := by omega
          have r2 := (HD.out.below hbq).range (ix len (z t)) hq5
          have R2 : Hid _ := r2
          have hl2 : (Tryd.prog.info? 23).map (·.size) = some (arr (g (ix len (z t))) 32).toList.length := by rw [Array.length_toList, arr_size]; exact info23
          have hA2s : (arr (g (ix len (z t))) 32).size = 32 := arr_size _ _
          have hA2o := arr_one (g (ix len (z t))) 32
          have hfl : flatD (allD g len z) (len + t + 1) = flatD (allD g len z) (len + t) ++ (arr (g (ix len (z t))) 32).toList := by
            rw [flatD_succ]
            unfold allD
            rw [if_neg (by omega), show len + t - len = t by omega]
          have HFL : Hid _ := hfl
          clear r2 hfl
          generalize ix len (z t) = xi at *
          generalize arr (g xi) 32 = A2 at *
          generalize flatD (allD g len z) (len + t) = FX at *
          have hj1000 : len + t ≤ 1000 := by omega
          go_wp2_with (first
            | (refine wpList_load_mid rfl 23 _ rfl b (off + xi * 32) rfl A2.toList _ R2.out Tryd.underlying23 rfl hl2 ?_; simp only [Array.toArray_toList])
            | refine wpList_one rfl _ rfl A2 rfl hA2s ?_
            | (at_builtin; refine wpList_more rfl _ _ rfl w.heap.size u5 (len + t) FX _ rfl rfl ownq hA2s hA2o rfl hj1000 hsq ?_))
          intro v2 w2 own2 grow2
          have hb2 : Below w.heap.size w w2 := grow2 w hbq
          rw [← HFL.out] at own2
          clear grow2
          go_wp2
          go_roundw
          case rel => exact ⟨t + 1, by omega, by go_num, (fun h => by omega), by rw [← Nat.add_assoc]; exact own2, hb2⟩
          case measure => simp [intOf]; omega
        · have hiS : (Tryd.prog.info? 24).map (·.size) = some S.size := by rw [hS]; exact info24
          have hclen := cnt_le g len
          by_cases htl : t < tlen
          · have hl0 : len = 0 := by omega
            have hl0' : ¬ ((0 : Int) < (len : Int)) := by omega
            clear hc
            go_wp2_with fail
            refine Calls.mono (HSU.out _ hbq) ?_
            rintro e w3 ⟨rfl, hb3⟩
            have hb3' : Below w.heap.size w w3 := hbq.trans (hb3.mono hsq)
            have hs3 := hb3'.size
            have own3 := (ownsRow_below24 (show World.ownsRow _ _ _ _ _ _ _ from ownq) hb3).alloc (.cells S 24)
            have hb4 : Below w.heap.size w (w3.alloc (.cells S 24)) := hb3'.alloc hs3 _
            have rS : Row (w3.alloc (.cells S 24)) w3.heap.size S 24 := Row.new w3 S 24
            have HD1 := HDI.out _ _ (len + t) own3 (by omega) (by omega) (fun h => by have := ht0.out h; omega)
            have HD1' : Hid _ := HD1
            clear HD1 own3
            go_wp2_with (refine wpList_store_new rfl 24 _ _ rfl w3 zeros32 S 24 rfl w3.heap.size rfl rfl rfl hiS (show zeros32.size = S.size from hS.symm) hS1 ?_)
            refine Calls.mono HD1'.out ?_
            rintro e w4 ⟨rfl, hb5⟩
            have hb5' : Below w.heap.size w w4 := hb4.trans (hb5.mono hb4.size)
            have rS4 := rS.below hb5 rS.lt
            go_wp2_with fail
            refine Calls.mono (HDN.out w4) ?_
            rintro e w5 ⟨rfl, hb6⟩
            have hb6' : Below w.heap.size w w5 := hb5'.trans (hb6.mono hb5'.size)
            have rS5 := rS4.below hb6 rS4.lt
            have c0 := (Row.cell rS5 0).trans hS0
            have c31 := (Row.cell rS5 31).trans hS31
            go_wp2
            go_ret
            exact ⟨rfl, hb6'⟩
          · have htl' : ¬ ((t : Int) < (tlen : Int)) := by omega
            clear hc
            go_wp2_with fail
            refine Calls.mono (HSU.out _ hbq) ?_
            rintro e w3 ⟨rfl, hb3⟩
            have hb3' : Below w.heap.size w w3 := hbq.trans (hb3.mono hsq)
            have hs3 := hb3'.size
            have own3 := (ownsRow_below24 (show World.ownsRow _ _ _ _ _ _ _ from ownq) hb3).alloc (.cells S 24)
            have hb4 : Below w.heap.size w (w3.alloc (.cells S 24)) := hb3'.alloc hs3 _
            have rS : Row (w3.alloc (.cells S 24)) w3.heap.size S 24 := Row.new w3 S 24
            have HD1 := HDI.out _ _ (len + t) own3 (by omega) (by omega) (fun h => by have := ht0.out h; omega)
            have HD1' : Hid _ := HD1
            clear HD1 own3
            go_wp2_with (refine wpList_store_new rfl 24 _ _ rfl w3 zeros32 S 24 rfl w3.heap.size rfl rfl rfl hiS (show zeros32.size = S.size from hS.symm) hS1 ?_)
            refine Calls.mono HD1'.out ?_
            rintro e w4 ⟨rfl, hb5⟩
            have hb5' : Below w.heap.size w w4 := hb4.trans (hb5.mono hb4.size)
            have rS4 := rS.below hb5 rS.lt
            go_wp2_with fail
            refine Calls.mono (HDN.out w4) ?_
            rintro e w5 ⟨rfl, hb6⟩
            have hb6' : Below w.heap.size w w5 := hb5'.trans (hb6.mono hb5'.size)
            have rS5 := rS4.below hb6 rS4.lt
            have c0 := (Row.cell rS5 0).trans hS0
            have c31 := (Row.cell rS5 31).trans hS31
            go_wp2
            go_ret
            exact ⟨rfl, hb6'⟩

theorem long_counts (a : Option Addr) (len cap : Nat) (ta : Option Addr) (tlen tcap : Nat) (w : World) (h : 200 < len ∨ 200 < tlen) (h1 : len ≤ 9223372036854775807) (h2 : tlen ≤ 9223372036854775807) :
    Calls Tryd.prog 6 #[.slice a len cap, .slice ta tlen tcap] w fun e w' => e = .returned (.bool true) ∧ Below w.heap.size w w' := by
  by_cases hl : 200 < len
  · clear h
    go_enter Tryd.func6, Tryd.ntmps6
    go_wp2
    go_ret
    exact ⟨rfl, Below.refl _ _⟩
  · have ht : 200 < tlen := by omega
    clear h
    go_enter Tryd.func6, Tryd.ntmps6
    go_wp2
    go_ret
    exact ⟨rfl, Below.refl _ _⟩
end Go.Proofs.YtihemceilmcekaaDoor
