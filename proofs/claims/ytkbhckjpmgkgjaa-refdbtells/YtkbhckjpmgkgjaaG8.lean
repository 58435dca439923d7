/- My own work: the walk of refs: by numbers what each path refers to. -/
import Derived.Test.YtkbhckjpmgkgjaaG7
namespace Go.Proofs.Ytkbhckjpmgkgjaa
open Go.RowKit
open Go.ChangeMaps (setBlock)

theorem len_le {α : Type} [BEq α] [LawfulBEq α] : ∀ (D E : List α), D.Nodup → (∀ x ∈ D, x ∈ E) → D.length ≤ E.length
  | [], _, _, _ => Nat.zero_le _
  | d :: D, E, hn, hs => by
    have hn' := List.nodup_cons.1 hn
    have hd := hs d List.mem_cons_self
    have ih := len_le D (E.erase d) hn'.2 (fun x hx => (List.mem_erase_of_ne (fun e => hn'.1 (by rw [← e]; exact hx))).2 (hs x (List.mem_cons_of_mem _ hx)))
    have h1 := List.length_erase_of_mem hd
    have h2 : 0 < E.length := List.length_pos_of_mem hd
    rw [List.length_cons]
    omega
theorem edges_few {E : List (Nat × Nat)} {n : Nat} (hnd : E.Nodup) (hb : ∀ x ∈ E, x.1 < n ∧ x.2 < n) (hn : n ≤ 4096) : E.length ≤ 16777216 := by
  have h1 : (E.map fun x => x.1 * 4096 + x.2).length ≤ (List.range 16777216).length := by
    refine len_le _ _ ?n ?s
    case n =>
      refine List.pairwise_map.2 (List.Pairwise.imp_of_mem (fun {a b} ha hb' hab e => hab ?_) hnd)
      have := hb a ha
      have := hb b hb'
      exact Prod.ext (by omega) (by omega)
    case s =>
      intro y hy
      obtain ⟨x, hx, rfl⟩ := List.mem_map.1 hy
      have := hb x hx
      exact List.mem_range.2 (by omega)
  rw [List.length_map, List.length_range] at h1
  exact h1
theorem info3 : (Try.prog.info? 3).map (fun i => (i.zero, i.size, i.bytes)) = some (some (.int .i64 0), 1, 8) := by kernel_rfl
theorem infoIs : (Try.prog.info? 68).map (fun i => (i.zero, i.size, i.bytes)) = some (some (.slice none 0 0), 1, 24) := by kernel_rfl
theorem infoE : (Try.prog.info? 77).map (·.size) = some 2 := by kernel_rfl
/-- One number is appended to a row of one's own. -/
theorem ap_int {w : World} {o : Oper} {a : Act} {K : Act → World → Prop} {Q : Exit → Act → World → Prop} (dd : Option Tmp) (hdd : o.dst = dd) (s x : Operand) (ho : o.op = .call { callee := .builtin .append, args := #[s, x], argTypes := #[68, 68] }) (B : Nat) (v : Value) (n : Nat) (xs : List Value) (hs : a.eval s = v) (t : Int) (hown : (w.alloc (.cells #[.int .i64 t] 3)).ownsRow B 3 1 v n xs) (hx : a.eval x = .slice (some ⟨w.heap.size, 0, none⟩) 1 1) (hB : B ≤ w.heap.size) (hby : (n + 1) * 8 ≤ 140737488355328)
    (h : ∀ v' w', w'.ownsRow B 3 1 v' (n + 1) (xs ++ [.int .i64 t]) → (w.alloc (.cells #[.int .i64 t] 3)).grownBy w' v.ownBlock → (v'.ownBlock = v.ownBlock ∨ v'.ownBlock = some (w.heap.size + 1)) → K (a.put dd v') w') : o.wp Try.prog a (w.alloc (.cells #[.int .i64 t] 3)) K Q := by
  refine wp_append_any dd hdd s x 68 3 (.int .i64 0) 1 8 Try.underlying68 info3 rfl (by decide) ho B v n xs hs hown (some ⟨w.heap.size, 0, none⟩) w.heap.size 0 1 1 [.int .i64 t] rfl hx (fun _ => rfl) (fun j u hj => ?_) (fun u hu => ?_) (fun h => nomatch h) (by unfold maxLen; omega) hby (by simp; omega) (fun v' w' h1 h2 h3 => h v' w' h1 h2 (by simpa using h3))
  · cases j with
    | zero => simp at hj; subst hj; exact (Row.cell (Row.new w #[.int .i64 t] 3) 0).trans rfl
    | succ j => simp at hj
  · simp at hu; subst hu; rfl
/-- What refs tells. -/
def RefsPost (n : Nat) (E : List (Nat × Nat)) (w : World) (e : Ending) (w' : World) : Prop :=
  ∃ B r C T, e = .returned (.slice (some ⟨r, 0, none⟩) n n) ∧ Rws w' B r n C T ∧ (∀ k, k < n → ∀ x, x ∈ T k ↔ (k, x) ∈ E) ∧ Below w.heap.size w w' ∧ w.heap.size ≤ r
set_option maxRecDepth 20000 in
set_option maxHeartbeats 8000000 in
theorem refs_ok (g : Nat) (P dv : List ByteArray) (E : List (Nat × Nat)) (w : World) (h : GAt w g P dv E) (hn : P.length ≤ 4096) (hE : ∀ x ∈ E, x.1 < P.length ∧ x.2 < P.length) : Calls Try.prog 45 #[.pointer (some ⟨g, 0, none⟩)] w (RefsPost P.length E w) := by
  obtain ⟨a, c, da, dc, m, es, clk, hrow, hS, _, hed⟩ := h.ex
  have hnd := h.nd
  have hfew := edges_few hnd hE hn
  obtain ⟨n, hN⟩ : ∃ n, n = P.length := ⟨_, rfl⟩
  rw [← hN] at hn hE hrow
  rw [← hN]
  have hml : m < w.heap.size := (Array.getElem?_eq_some_iff.1 hed.obj).1
  have q0 := (hrow.cell 0).trans (rfl : _ = some (Value.slice a n c))
  have q2 := (hrow.cell 2).trans (rfl : _ = some (Value.map (some m)))
  have hmk := run_make_row' (P := Try.prog) 67 68 (.slice none 0 0) 24 Try.underlying67 infoIs rfl .i64 .i64 n (by omega) (by omega) w
  obtain ⟨w1, hw1⟩ : ∃ x, x = w.alloc (.cells (madeCells #[.slice none 0 0] n) 68) := ⟨_, rfl⟩
  rw [← hw1] at hmk
  have hs1 : w1.heap.size = w.heap.size + 1 := by rw [hw1]; simp
  have hb1 : Below w.heap.size w w1 := by rw [hw1]; exact (Below.refl _ _).alloc (Nat.le_refl _) _
  have hed1 := hed.keep (hb1.block m hml)
  have q21 : w1.cell? ⟨g, 2, none⟩ = some (.map (some m)) := (hb1.cell (p := ⟨g, 2, none⟩) hrow.lt).trans q2
  have hrg := run_range_map (P := Try.prog) w1 49 77 75 m es clk Try.underlying49 hed1.obj
  obtain ⟨w2, hw2⟩ : ∃ x, x = w1.alloc (.mapIter (some m) clk #[] clk) := ⟨_, rfl⟩
  rw [← hw2] at hrg
  have hs2 : w2.heap.size = w1.heap.size + 1 := by rw [hw2]; simp
  have hb2 : Below w1.heap.size w1 w2 := by rw [hw2]; exact (Below.refl _ _).alloc (Nat.le_refl _) _
  have HRan : Hid (Ran w2 m w1.heap.size E es clk [] []) := by rw [hw2]; exact Ran.start hed1
  have HRws : Hid (Rws w2 (w.heap.size + 1) w.heap.size n (fun _ => .slice none 0 0) (fun _ => [])) := by
    refine ⟨?_, fun k hk => World.ownsRow_nil _ _ _ _, (fun k k' _ _ _ b hb => by cases hb), Nat.lt_succ_self _, by omega⟩
    have h1 : Row w1 w.heap.size (madeCells #[.slice none 0 0] n) 68 := by rw [hw1]; exact Row.new w _ _
    have h2 := h1.below hb2 h1.lt
    have e : madeCells #[.slice none 0 0] n = ((List.range n).map fun _ => Value.slice none 0 0).toArray := by
      apply Array.toList_inj.1
      rw [toList_madeCells_one]
      apply List.ext_getElem
      · simp
      · intro i h3 h4
        simp
    rw [e] at h2
    exact h2
  have HB2 : Hid (Below w.heap.size w w2) := hb1.trans (hb2.mono hb1.size)
  have HN : Hid _ := hN
  have HE : Hid _ := hE
  have hlt1 : w.heap.size < w1.heap.size := by omega
  have hlt2 : w1.heap.size < w2.heap.size := by omega
  clear hs1 hs2
  clear h hrow hS hed hed1 hb1 hb2 hw1 hw2 hE hN
  go_enter Try.func45, Try.ntmps45
  go_wp2
  clear hmk hrg q0 q2 q21
  go_loopw [] (fun wr => ∃ (ds : List MapEntry) (D : List (Nat × Nat)) (C : Nat → Value) (T : Nat → List Nat), Ran wr m w1.heap.size E es clk ds D ∧ Rws wr (w.heap.size + 1) w.heap.size n C T ∧ (∀ k, T k = (D.filter fun x => x.1 == k).map (·.2)) ∧ Below w.heap.size w wr)
    (fun wr => match wr.heap[w1.heap.size]? with | some (.mapIter _ _ seen _) => E.length - seen.size | _ => 0)
  case atStart => exact ⟨[], [], _, _, HRan.out, HRws.out, fun k => rfl, HB2.out⟩
  case round =>
    obtain ⟨ds, D, C, T, hRan, hRws, hT, hB⟩ := hrel
    rcases hRan.next hnd (by omega) 0 with ⟨hall, hnx⟩ | ⟨x, en, w3, hxE, hxD, hnx, hRan3, hent, hos, htp, hou, hsz3, hoth⟩
    · have HF : Hid (RefsPost n E w (.returned (.slice (some ⟨w.heap.size, 0, none⟩) n n)) wr) := ⟨w.heap.size + 1, w.heap.size, C, T, rfl, hRws, fun k hk x => by
        rw [hT k, List.mem_map]
        constructor
        · rintro ⟨y, hy, rfl⟩
          rw [List.mem_filter, beq_iff_eq] at hy
          obtain ⟨hy1, rfl⟩ := hy
          exact hRan.subD y hy1
        · intro h1
          exact ⟨(k, x), List.mem_filter.2 ⟨hall _ h1, by simp⟩, rfl⟩, hB, Nat.le_refl _⟩
      clear hRan hRws hT hall
      go_wp2
      go_ret
      exact HF.out
    · obtain ⟨xa, xb⟩ := x
      have hxb := HE.out (xa, xb) hxE
      simp only at hxb
      have hTl : (T xa).length ≤ E.length := by
        rw [hT xa, List.length_map]
        exact Nat.le_trans (List.length_filter_le _ _) (len_le D E hRan.nd hRan.subD)
      have hB3 : Below w.heap.size w w3 := hB.trans ⟨hos, htp, hou, by omega, fun k hk => hoth k (by omega)⟩
      have hsW := hB.size
      have hRl := hRws.le
      have hRw3 : Rws w3 (w.heap.size + 1) w.heap.size n C T := hRws.keep (fun k hk hD => hoth k (fun e => by
        obtain ⟨C', t', fr', h1⟩ := hD
        obtain ⟨seen, h2, _⟩ := hRan.iter
        rw [e, h2] at h1
        cases h1)) (by omega)
      obtain ⟨w4, hw4⟩ : ∃ x, x = w3.alloc (.cells #[.int .i64 (xa : Int), .int .i64 (xb : Int)] 77) := ⟨_, rfl⟩
      have hb34 : Below w3.heap.size w3 w4 := by rw [hw4]; exact (Below.refl _ _).alloc (Nat.le_refl _) _
      have hr4 : Row w4 w3.heap.size #[.int .i64 (xa : Int), .int .i64 (xb : Int)] 77 := by rw [hw4]; exact Row.new w3 _ _
      have hRw4 := hRw3.keep (w' := w4) (fun k hk _ => hb34.block k hk) hb34.size
      have hml3 : m < w3.heap.size := by have := (Array.getElem?_eq_some_iff.1 hRan3.edges.obj).1; exact this
      have hil3 : w1.heap.size < w3.heap.size := by obtain ⟨_, h2, _⟩ := hRan3.iter; exact (Array.getElem?_eq_some_iff.1 h2).1
      have hRan4 := hRan3.keep (w' := w4) (hb34.block m hml3) (hb34.block _ hil3)
      have hB4 : Below w.heap.size w w4 := hB3.trans (hb34.mono hB3.size)
      have hen3 := hent w3 rfl rfl
      have HG : Hid (Ran w4 m w1.heap.size E es clk (ds ++ [en]) (D ++ [(xa, xb)]) ∧ Rws w4 (w.heap.size + 1) w.heap.size n C T ∧ Below w.heap.size w w4 ∧ Row w4 w3.heap.size #[.int .i64 (xa : Int), .int .i64 (xb : Int)] 77) := ⟨hRan4, hRw4, hB4, hr4⟩
      have hone : (#[.int .i64 (xa : Int), .int .i64 (xb : Int)] : Array Value).all (·.oneCell') = true := by simp [Value.oneCell']
      have hw4' := hw4.symm
      clear hw4 hb34 hr4 hRw4 hRan4 hB4 hRw3 hRan3 hB3 hent hoth hos htp hou hsz3
      simp only [ekey] at hnx hen3
      go_wp2_with (refine wpList_store_new rfl 77 _ _ rfl w3 #[.int .i64 0, .int .i64 0] #[.int .i64 (xa : Int), .int .i64 (xb : Int)] 77 rfl w3.heap.size rfl rfl rfl infoE rfl hone ?_)
      have hd4 : Below w4.heap.size w4 w4.drew := (Below.refl _ _).drew
      have hlt4 : w3.heap.size < w4.heap.size := Row.lt HG.out.2.2.2
      have hRd := HG.out.2.1.keep (w' := w4.drew) (fun k hk _ => rfl) (Nat.le_refl _)
      have hrd : Row w4.drew w3.heap.size #[.int .i64 (xa : Int), .int .i64 (xb : Int)] 77 := HG.out.2.2.2
      have hxn : (xa : Int) < (n : Int) := by omega
      rw [hw4']
      refine wp_region_perm [(false, 0), (false, 1), (false, 2), (false, 3), (false, 4), (false, 5), (false, 6), (false, 7), (false, 8), (false, 9), (true, 10), (true, 11), (false, 12), (true, 13)] (fun wx => Row wx w3.heap.size #[.int .i64 (xa : Int), .int .i64 (xb : Int)] 77 ∧ Row wx w.heap.size ((List.range n).map C).toArray 68) (by kernel_rfl) (by kernel_rfl) ⟨hrd, hRd.row⟩ ?_
      refine p_value (some 20) (.slice (some ⟨w.heap.size, 0, none⟩) n n) rfl rfl (by rfl) (fun wx hw => ?_) ?_
      · go_simp
      simp only [Act.put, List.setIfInBounds_toArray, List.set_cons_zero, List.set_cons_succ]
      refine p_value (some 21) (.pointer (some ⟨w3.heap.size, 0, none⟩)) rfl rfl (by rfl) (fun wx hw => ?_) ?_
      · go_simp
      simp only [Act.put, List.setIfInBounds_toArray, List.set_cons_zero, List.set_cons_succ]
      refine p_value (some 22) (.int .i64 (xa : Int)) rfl rfl (by rfl) (fun wx hw => ?_) ?_
      · have h0 := (hw.1.cell 0).trans (rfl : _ = some (Value.int .i64 (xa : Int)))
        go_simp
      simp only [Act.put, List.setIfInBounds_toArray, List.set_cons_zero, List.set_cons_succ]
      refine p_value (some 23) (.slice (some ⟨w.heap.size, 0, none⟩) n n) rfl rfl (by rfl) (fun wx hw => ?_) ?_
      · go_simp
      simp only [Act.put, List.setIfInBounds_toArray, List.set_cons_zero, List.set_cons_succ]
      refine p_value (some 24) (.pointer (some ⟨w3.heap.size, 0, none⟩)) rfl rfl (by rfl) (fun wx hw => ?_) ?_
      · go_simp
      simp only [Act.put, List.setIfInBounds_toArray, List.set_cons_zero, List.set_cons_succ]
      refine p_value (some 25) (.int .i64 (xa : Int)) rfl rfl (by rfl) (fun wx hw => ?_) ?_
      · have h0 := (hw.1.cell 0).trans (rfl : _ = some (Value.int .i64 (xa : Int)))
        go_simp
      simp only [Act.put, List.setIfInBounds_toArray, List.set_cons_zero, List.set_cons_succ]
      refine p_value (some 26) (.pointer (some ⟨w.heap.size, xa, none⟩)) rfl rfl (by rfl) (fun wx hw => ?_) ?_
      · go_simp
      simp only [Act.put, List.setIfInBounds_toArray, List.set_cons_zero, List.set_cons_succ]
      refine p_value (some 27) (C xa) rfl rfl (by rfl) (fun wx hw => ?_) ?_
      · have h0 : wx.cell? ⟨w.heap.size, xa, none⟩ = some (C xa) := by rw [hw.2.cell xa]; simp [hxb.1]
        go_simp
      simp only [Act.put, List.setIfInBounds_toArray, List.set_cons_zero, List.set_cons_succ]
      refine p_value (some 28) (.pointer (some ⟨w3.heap.size, 1, none⟩)) rfl rfl (by rfl) (fun wx hw => ?_) ?_
      · go_simp
      simp only [Act.put, List.setIfInBounds_toArray, List.set_cons_zero, List.set_cons_succ]
      refine p_value (some 29) (.int .i64 (xb : Int)) rfl rfl (by rfl) (fun wx hw => ?_) ?_
      · have h0 := (hw.1.cell 1).trans (rfl : _ = some (Value.int .i64 (xb : Int)))
        go_simp
      simp only [Act.put, List.setIfInBounds_toArray, List.set_cons_zero, List.set_cons_succ]
      have hb5 : Below w4.drew.heap.size w4.drew (w4.drew.alloc (.cells #[.int .i64 (xb : Int)] 3)) := (Below.refl _ _).alloc (Nat.le_refl _) _
      have hR5 := hRd.keep (w' := w4.drew.alloc (.cells #[.int .i64 (xb : Int)] 3)) (fun k hk _ => hb5.block k hk) hb5.size
      have hr5 : Row (w4.drew.alloc (.cells #[.int .i64 (xb : Int)] 3)) w3.heap.size #[.int .i64 (xa : Int), .int .i64 (xb : Int)] 77 := hrd.below hb5 hrd.lt
      refine p_alone (some 30) (.slice (some ⟨w4.heap.size, 0, none⟩) 1 1) (w4.drew.alloc (.cells #[.int .i64 (xb : Int)] 3)) rfl rfl (by rfl) (by kernel_rfl) (fun _ => ⟨hr5, hR5.row⟩) ?_
      simp only [Act.put, List.setIfInBounds_toArray, List.set_cons_zero, List.set_cons_succ]
      refine p_wp rfl (by rfl) ?_
      refine ap_int (some 31) rfl (.tmp 27) (.tmp 30) rfl (w.heap.size + 1) _ (T xa).length _ rfl (xb : Int) (hR5.own xa hxb.1) rfl hRd.le (by omega) ?_
      intro v6 w6 hown6 hg6 hor6
      have hfar : ∀ k, w.heap.size < k → k < w4.heap.size → (∀ t, (C xa).ownBlock ≠ some t ∨ t ≠ k) → w6.heap[k]? = w4.heap[k]? := fun k h1 h2 h3 => (hg6.block k (by simp; omega) (fun e => by rcases h3 k with h | h; exact h e.symm; exact h rfl)).trans (hb5.block k h2)
      have hobk : ∀ b, (C xa).ownBlock = some b → ∃ D, (w4.drew.alloc (.cells #[.int .i64 (xb : Int)] 3)).heap[b]? = some (.cells D 3 (0, 0)) := ownsRow_row (hR5.own xa hxb.1)
      have hr6 : Row w6 w3.heap.size #[.int .i64 (xa : Int), .int .i64 (xb : Int)] 77 := (hg6.block _ hr5.lt (fun e => by
        obtain ⟨D', hD'⟩ := hobk _ e.symm
        have h1 : (w4.drew.alloc (.cells #[.int .i64 (xb : Int)] 3)).heap[w3.heap.size]? = _ := hr5
        rw [hD'] at h1
        simp only [Option.some.injEq, Obj.cells.injEq] at h1
        exact absurd h1.2.1 (by decide))).trans hr5
      have hR6 : Row w6 w.heap.size ((List.range n).map C).toArray 68 := (hg6.block _ hR5.row.lt (fun e => by
        have := (ownsRow_lt' (hR5.own xa hxb.1) _ e.symm).2
        omega)).trans hR5.row
      have HM : Hid (Rws (w6.setCell ⟨w.heap.size, xa, none⟩ v6) (w.heap.size + 1) w.heap.size n (fun j => if j = xa then v6 else C j) (fun j => if j = xa then T xa ++ [xb] else T j)) := hR5.more hxb.1 hown6 hg6 (hor6.imp id fun h => by rw [h]; simp)
      have hnc : ∀ k o, k < w4.heap.size → w4.heap[k]? = some o → (∀ D t fr, o ≠ .cells D t fr) → (w6.setCell ⟨w.heap.size, xa, none⟩ v6).heap[k]? = w4.heap[k]? := fun k o h1 h2 h3 => by
        have h4 : k ≠ w.heap.size := fun e => by
          have h5 : w4.heap[w.heap.size]? = _ := HG.out.2.1.row
          rw [e, h5] at h2
          exact h3 _ _ _ (Option.some.inj h2).symm
        refine (heap_setCell_other w6 ⟨w.heap.size, xa, none⟩ k v6 h4).trans ((hg6.block k (by simp; omega) (fun e => ?_)).trans (hb5.block k h1))
        obtain ⟨D', hD'⟩ := hobk k e.symm
        have h6 := (hb5.block k h1).symm.trans hD'
        rw [show w4.drew.heap[k]? = w4.heap[k]? from rfl, h2] at h6
        exact h3 _ _ _ (Option.some.inj h6)
      obtain ⟨seen4, hi4, hi4'⟩ := HG.out.1.iter
      have HRn : Hid (Ran (w6.setCell ⟨w.heap.size, xa, none⟩ v6) m w1.heap.size E es clk (ds ++ [en]) (D ++ [(xa, xb)])) := HG.out.1.keep (hnc m _ (Array.getElem?_eq_some_iff.1 HG.out.1.edges.obj).1 HG.out.1.edges.obj (fun _ _ _ h => nomatch h)) (hnc _ _ (Array.getElem?_eq_some_iff.1 hi4).1 hi4 (fun _ _ _ h => nomatch h))
      have HB6 : Hid (Below w.heap.size w (w6.setCell ⟨w.heap.size, xa, none⟩ v6)) := HG.out.2.2.1.trans ⟨hg6.os, hg6.tape, hg6.output, by have := hg6.size; simp at this ⊢; omega, fun k hk => (heap_setCell_other w6 ⟨w.heap.size, xa, none⟩ k v6 (by show k ≠ w.heap.size; omega)).trans ((hg6.block k (by simp; have := HG.out.2.2.1.size; omega) (fun e => by have := (ownsRow_lt' (hR5.own xa hxb.1) k e.symm).2; omega)).trans (hb5.block k (by have := HG.out.2.2.1.size; show k < w4.heap.size; omega)))⟩
      refine ⟨fun _ => ⟨hr6, hR6⟩, ?_⟩
      obtain ⟨a6, c6, rfl⟩ := own_slice hown6
      simp only [Act.put, List.setIfInBounds_toArray, List.set_cons_zero, List.set_cons_succ]
      refine p_value (some 32) (.pointer (some ⟨w.heap.size, xa, none⟩)) rfl rfl (by rfl) (fun wx hw => ?_) ?_
      · go_simp
      simp only [Act.put, List.setIfInBounds_toArray, List.set_cons_zero, List.set_cons_succ]
      have q6 : w6.cell? ⟨w.heap.size, xa, none⟩ = some (C xa) := by rw [hR6.cell xa]; simp [hxb.1]
      have f6 := hR6.frozen xa
      refine p_store (w6.setCell ⟨w.heap.size, xa, none⟩ (.slice a6 ((T xa).length + 1) c6)) rfl rfl (by rfl) (by go_simp) (fun h => absurd rfl h) ?_
      refine p_done ?_
      try simp only [Exit.then]
      clear hown6 hg6 hor6 hfar hobk hr6 hR6 hnc q6 f6 hR5 hr5 hRd hrd hb5 hd4 hi4
      have hms : ∃ s0, wr.heap[w1.heap.size]? = some (.mapIter (some m) clk s0 clk) ∧ s0.toList = ds.map (·.born) := hRan.iter
      obtain ⟨s0, hs0, hs0'⟩ := hms
      have hl0 : s0.size = D.length := by
        have h1 := congrArg List.length hs0'
        have h2 := congrArg List.length hRan.keys
        rw [List.length_map] at h1
        rw [List.length_map, List.length_map] at h2
        simp at h1
        omega
      obtain ⟨s7, hs7, hs7'⟩ := HRn.out.iter
      have hl7 : s7.size = D.length + 1 := by
        have h1 := congrArg List.length hs7'
        have h2 := congrArg List.length HRn.out.keys
        rw [List.length_map] at h1
        rw [List.length_map, List.length_map, List.length_append] at h2
        simp at h1 h2
        omega
      have hDE : D.length + 1 ≤ E.length := by
        have := len_le _ _ HRn.out.nd HRn.out.subD
        rw [List.length_append] at this
        exact this
      have HT : Hid _ := hT
      have HM2 : Hid (E.length - s7.size < E.length - s0.size) := by show _ < _; omega
      have HS0 : Hid _ := hs0
      have HS7 : Hid _ := hs7
      clear hRan hRws hT hs0 hs7 hnx hen3
      go_wp2
      go_roundw
      case rel =>
        refine ⟨ds ++ [en], D ++ [(xa, xb)], _, _, HRn.out, HM.out, fun k => ?_, HB6.out⟩
        rw [List.filter_append, List.map_append, ← HT.out]
        by_cases hk : k = xa
        · subst hk
          simp
        · have : ¬ xa = k := fun e => hk e.symm
          simp [hk, this]
      case measure => rw [HS0.out, HS7.out]; exact HM2.out
end Go.Proofs.Ytkbhckjpmgkgjaa
