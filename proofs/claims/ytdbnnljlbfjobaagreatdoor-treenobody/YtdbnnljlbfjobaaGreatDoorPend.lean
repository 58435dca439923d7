/- The walk of Pending: the keys of a map, in order. -/
import Derived.Test.YtdbnnljlbfjobaaGreatDoorSort2
import Derived.Test.YtdbnnljlbfjobaaGreatDoorJn
namespace Go.Proofs.YtdbnnljlbfjobaaGreatDoor
open Go.RowKit
open Go.ChangeMaps (setBlock)

theorem Tryz.info3 : (Tryz.prog.info? 3).map (fun i => (i.zero, i.size, i.bytes)) = some (some (.int .i64 0), 1, 8) := by kernel_rfl
theorem nodup_len : ∀ (N K : List Nat), N.Nodup → (∀ k ∈ N, k ∈ K) → N.length ≤ K.length
  | [], _, _, _ => Nat.zero_le _
  | x :: N, K, hn, hs => by
    have hn' := List.nodup_cons.1 hn
    have hx := hs x (by simp)
    have h := nodup_len N (K.erase x) hn'.2 (fun k hk => (List.mem_erase_of_ne (fun e => by subst e; exact hn'.1 hk)).2 (hs k (by simp [hk])))
    rw [List.length_erase_of_mem hx] at h
    have : 0 < K.length := List.length_pos_of_mem hx
    simp
    omega

section
variable {ops : Array Oper} {rest : List Oper} {o : Oper} {a : Act} {w : World} {Q : Exit → Act → World → Prop}
theorem wpList_next_map (hgd : o.guard = none) (it : Operand) (ho : o.op = .next it false) (r gm since c0 : Nat) (seen : Array Nat) (es : Array MapEntry) (clock : Nat) (hit : a.eval it = .pointer (some ⟨r, 0, none⟩))
    (hr : w.heap[r]? = some (.mapIter (some gm) since seen c0)) (hb : w.heap[gm]? = some (.map es clock)) (hold : ∀ x ∈ es.toList, x.born < since) (hsc : since ≤ c0)
    (h0 : Hid ((leftOf es seen).size = 0) → wpList Tryz.prog ops Q rest (a.put o.dst (.tuple #[.bool false])) w)
    (h1 : ∀ (e : MapEntry) (w1 W : World), Hid (e ∈ (leftOf es seen).toList ∧ (w1 = w ∨ w1 = w.drew) ∧ W = setBlock w1 r (.mapIter (some gm) since (seen.push e.born) clock)) → wpList Tryz.prog ops Q rest (a.put o.dst (.tuple #[.bool true, e.key, e.val])) W) :
    wpList Tryz.prog ops Q (o :: rest) a w := by
  refine wpList_plain hgd fun K hK => ?_
  unfold Oper.wp execOp
  rcases run_next_at (P := Tryz.prog) w o.type r gm since c0 seen es clock hr hb hold hsc with ⟨h, hrun⟩ | ⟨e, he, w1, hw1, hrun⟩
  · simp only [ho, hit, Sem.run_bind, hrun, Result.andThen_ok, Sem.run_pure]
    exact hK _ _ (h0 h)
  · simp only [ho, hit, Sem.run_bind, hrun, Result.andThen_ok, Sem.run_pure]
    exact hK _ _ (h1 e w1 _ ⟨he, hw1, rfl⟩)
end

/-- The keys of what is put, rising. -/
structure KeysOf (L : List Pt) (K : List Nat) : Prop where
  up : K.Pairwise (· < ·)
  mem : ∀ k, k ∈ K ↔ k ∈ L.map Pt.k
  len : K.length = L.length
/-- A list of numbers as a slice. -/
structure NumsAt (w : World) (base : Nat) (v : Value) (K : List Nat) : Prop where
  ex : ∃ a c, v = .slice a K.length c ∧ (0 < K.length → ∃ b, a = some ⟨b, 0, none⟩ ∧ base ≤ b ∧ Ints w b K.length (fun i => (K.getD i 0 : Nat)))

theorem ins_nil (w : World) : Calls Tryz.prog 163 #[.slice none 0 0, .int .i64 0, .int .i64 0] w fun e w' => (∃ v, e = .returned v) ∧ w' = w := by
  go_enter Tryz.func163, Tryz.ntmps163
  go_wp2
  go_loopw [6] (fun iv wx => iv = .int .i64 1 ∧ wx = w) (fun _ _ => 0)
  case atStart => exact ⟨by go_num, rfl⟩
  case round =>
    obtain ⟨rfl, rfl⟩ := hrel
    go_wp2
    go_end0
    exact ⟨⟨_, rfl⟩, rfl⟩
theorem pdq_nil (lim : Int) (w : World) : Calls Tryz.prog 141 #[.slice none 0 0, .int .i64 0, .int .i64 0, .int .i64 lim] w fun e w' => (∃ v, e = .returned v) ∧ w' = w := by
  have H := ins_nil w
  go_enter Tryz.func141, Tryz.ntmps141
  go_wp2
  go_loopw [1, 2] (fun av bv wx => av = .int .i64 0 ∧ bv = .int .i64 0 ∧ wx = w) (fun _ _ _ => 0)
  case atStart => exact ⟨rfl, rfl, rfl⟩
  case round =>
    obtain ⟨rfl, rfl, rfl⟩ := hrel
    go_wp2_with fail
    refine H.mono ?_
    rintro e w' ⟨⟨v, rfl⟩, rfl⟩
    go_wp2
    (try simp only [Exit.inBlock, Exit.then])
    refine bodyPost_ret (results_none rfl _ _ _) rfl ?_
    exact ⟨⟨_, rfl⟩, rfl⟩
theorem sort_nil (w : World) : Calls Tryz.prog 122 #[.slice none 0 0] w fun e w' => (∃ v, e = .returned v) ∧ w' = w := by
  have HL := len_some 0 w (by omega)
  go_enter Tryz.func122, Tryz.ntmps122
  go_wp2_with fail
  refine HL.mono ?_
  rintro e w' ⟨⟨k, rfl⟩, hw'⟩
  subst w'
  go_wp2_with fail
  refine Calls.mono (pdq_nil k w) ?_
  rintro e w'' ⟨⟨v, rfl⟩, rfl⟩
  go_wp2
  go_end0
  exact ⟨⟨_, rfl⟩, rfl⟩
/-- 'append(v, k)', v numbers of one's own. -/
theorem wpList_num {ops : Array Oper} {rest : List Oper} {o : Oper} {a : Act} {w : World} {Q : Exit → Act → World → Prop} (hgd : o.guard = none) (s x : Operand) (ho : o.op = .call { callee := .builtin .append, args := #[s, x], argTypes := #[64, 64] }) (base : Nat) (v : Value) (N : List Nat) (k : Nat) (W : World) (hw : w = W.alloc (.cells #[.int .i64 k] 3))
    (hs : a.eval s = v) (hown : Hid (W.ownsRow base 3 1 v N.length (N.map fun k => Value.int .i64 (k : Nat)))) (q : Nat) (hq : q = W.heap.size) (hx : a.eval x = .slice (some ⟨q, 0, none⟩) 1 1) (hn : N.length ≤ 1000) (hbase : base ≤ W.heap.size)
    (h : ∀ v' w', Hid (w'.ownsRow base 3 1 v' (N ++ [k]).length ((N ++ [k]).map fun k => Value.int .i64 (k : Nat))) → (W.alloc (.cells #[.int .i64 k] 3)).grownBy w' v.ownBlock → wpList Tryz.prog ops Q rest (a.put o.dst v') w') : wpList Tryz.prog ops Q (o :: rest) a w := by
  subst hw
  subst hq
  obtain ⟨i0, hi, hz0, hz1, hz2⟩ := info_parts Tryz.info3
  have own' : (W.alloc (.cells #[.int .i64 k] 3)).ownsRow base 3 1 v N.length (N.map fun k => Value.int .i64 (k : Nat)) := World.ownsRow.alloc (show W.ownsRow base 3 1 v N.length _ from hown) _
  refine wpList_append_own_wide _ hgd s x 64 ho base 3 i0 (.int .i64 0) 1 8 Tryz.underlying64 hi hz0 hz1 hz2 rfl (by decide) v N.length _ hs own' _ 1 1 [.int .i64 k] hx rfl (cell_one_new _ _ _) (fun u hu => by simp at hu; subst hu; rfl) (by unfold maxLen; omega) (by omega) (by simp; omega) (fun v' w' h1 h2 _ => h v' w' ?_ h2)
  show w'.ownsRow base 3 1 v' (N ++ [k]).length ((N ++ [k]).map fun k => Value.int .i64 (k : Nat))
  rw [List.length_append, List.length_cons, List.length_nil, List.map_append]
  exact h1

/-- What holds while the map is gone through. -/
structure Rg (w0 : World) (gm r : Nat) (es : Array MapEntry) (clock : Nat) (nv : Value) (seen : Array Nat) (N : List Nat) (w : World) : Prop where
  it : ∃ c0, w.heap[r]? = some (.mapIter (some gm) clock seen c0) ∧ clock ≤ c0
  map : w.heap[gm]? = some (.map es clock)
  own : w.ownsRow (r + 1) 3 1 nv N.length (N.map fun k => Value.int .i64 (k : Nat))
  nodup : N.Nodup
  mem : ∀ k, k ∈ N ↔ ∃ x ∈ es.toList, seen.contains x.born = true ∧ x.key = .int .i64 (k : Nat)
  old : Below w0.heap.size w0 w
theorem own_ints {w : World} {base : Nat} {v : Value} {N : List Nat} (h : w.ownsRow base 3 1 v N.length (N.map fun k => Value.int .i64 (k : Nat))) : (v = .slice none 0 0 ∧ N = []) ∨ ∃ b c, v = .slice (some ⟨b, 0, none⟩) N.length c ∧ base ≤ b ∧ Ints w b N.length (fun i => (N.getD i 0 : Nat)) := by
  have h' := h
  obtain ⟨_, ⟨h1, h2⟩ | ⟨g, c, cur, h1, h2, h3, h4, h5, h6, h7⟩⟩ := h
  · exact .inl ⟨by rw [h1], List.eq_nil_of_length_eq_zero h2⟩
  · refine .inr ⟨g, c, h1, h2, cur, h3, by omega, fun i hi => ?_⟩
    rw [← Row.cell h3 i]
    subst h1
    rw [h'.cellAt i (by omega)]
    simp [List.getD, List.getElem?_eq_getElem hi]
/-- Sorted numbers are the keys. -/
theorem keys_sorted {L : List Pt} {N : List Nat} {n : Nat} {F : Nat → Int} (hn : n = N.length) (hnd : N.Nodup) (hm : ∀ k, k ∈ N ↔ k ∈ L.map Pt.k) (hl : N.length = L.length) (hA : Alike n F (fun i => (N.getD i 0 : Nat))) (hs : ∀ p q, p < q → q < n → F p ≤ F q) :
    ∃ K, KeysOf L K ∧ K.length = n ∧ ∀ i, i < n → F i = (K.getD i 0 : Nat) := by
  subst hn
  have hget : ∀ i, i < N.length → N.getD i 0 ∈ N := fun i hi => by
    simp [List.getD, List.getElem?_eq_getElem hi]
  have hF : ∀ i, i < N.length → ∃ k, k ∈ N ∧ F i = (k : Nat) := fun i hi => by
    obtain ⟨j, hj, e⟩ := (hA.mem (F i)).1 ⟨i, hi, rfl⟩
    exact ⟨_, hget j hj, e.symm⟩
  have hinj : ∀ i j, i < N.length → j < N.length → F i = F j → i = j := hA.inj fun i j hi hj e => by
    have e' : N.getD i 0 = N.getD j 0 := by exact_mod_cast e
    simp only [List.getD, List.getElem?_eq_getElem hi, List.getElem?_eq_getElem hj, Option.getD_some] at e'
    exact (List.getElem_inj hnd).1 e'
  have hat : ∀ i, i < N.length → ((List.range N.length).map fun i => (F i).toNat).getD i 0 = (F i).toNat := fun i hi => by simp [List.getD, hi]
  have hnn : ∀ i, i < N.length → F i = ((F i).toNat : Nat) := fun i hi => by
    obtain ⟨k, _, e⟩ := hF i hi
    omega
  refine ⟨(List.range N.length).map fun i => (F i).toNat, ⟨?_, fun k => ?_, by simp [hl]⟩, by simp, fun i hi => by rw [hat i hi]; exact hnn i hi⟩
  · rw [List.pairwise_map]
    refine List.Pairwise.imp_of_mem ?_ List.pairwise_lt_range
    intro p q hp hq hpq
    have hp' := List.mem_range.1 hp
    have hq' := List.mem_range.1 hq
    have h1 := hs p q hpq hq'
    have h2 := hnn p hp'
    have h3 := hnn q hq'
    have h4 : F p ≠ F q := fun e => by have := hinj p q hp' hq' e; omega
    omega
  · rw [← hm k]
    constructor
    · intro h
      obtain ⟨i, hi, e⟩ := List.mem_map.1 h
      obtain ⟨k', hk', e'⟩ := hF i (List.mem_range.1 hi)
      have : k = k' := by omega
      rw [this]
      exact hk'
    · intro h
      obtain ⟨j, hj, e⟩ := List.getElem_of_mem h
      obtain ⟨i, hi, e'⟩ := (hA.mem (k : Nat)).2 ⟨j, hj, by simp [List.getD, List.getElem?_eq_getElem hj, e]⟩
      exact List.mem_map.2 ⟨i, List.mem_range.2 hi, by omega⟩

set_option maxRecDepth 20000 in
set_option maxHeartbeats 4000000 in
theorem pending_ok {w : World} {b0 g1 c1 g2 c2 : Nat} {ev : Value} {D : Dk} {base gj gm gd : Nat} {J : Jn} (hD : DiskAt w b0 gd g1 c1 g2 c2 ev D) (h : JAt w base gj gm gd J) (hfew : J.L.length ≤ 12) :
    Calls Tryz.prog 88 #[.pointer (some ⟨gj, 0, none⟩)] w fun e w' => ∃ v K, e = .returned v ∧ KeysOf J.L K ∧ NumsAt w' w.heap.size v K ∧ Below w.heap.size w w' := by
  have H := jmade_yes hD h
  have c3 := (h.row.cell 3).trans (rfl : _ = some (Value.map (some gm)))
  have hnd := h.map.nodup
  have hglt := h.map.lt
  obtain ⟨es, clock, hb, he, hborn, hbn⟩ := h.map.ex
  have hrg := run_range_map (P := Tryz.prog) w 130 3 99 gm es clock Tryz.underlying130 hb
  have hkeys : ∀ x ∈ es.toList, ∃ k : Nat, x.key = .int .i64 k ∧ k ∈ J.L.map Pt.k := fun x hx => by
    have hm : (x.key, x.val) ∈ es.toList.map (fun e => (e.key, e.val)) := List.mem_map.2 ⟨x, hx, rfl⟩
    rw [he] at hm
    obtain ⟨p, hp, e⟩ := List.mem_map.1 hm
    simp only [Prod.mk.injEq] at e
    exact ⟨p.k, e.1.symm, List.mem_map.2 ⟨p, hp, rfl⟩⟩
  have hkeys2 : ∀ k ∈ J.L.map Pt.k, ∃ x ∈ es.toList, x.key = .int .i64 (k : Nat) := fun k hk => by
    obtain ⟨p, hp, rfl⟩ := List.mem_map.1 hk
    have hm : ((Value.int .i64 p.k, entV p.f) : Value × Value) ∈ J.L.map (fun p => (Value.int .i64 p.k, entV p.f)) := List.mem_map.2 ⟨p, hp, rfl⟩
    rw [← he] at hm
    obtain ⟨x, hx, e⟩ := List.mem_map.1 hm
    simp only [Prod.mk.injEq] at e
    exact ⟨x, hx, e.1⟩
  have hinj : ∀ x ∈ es.toList, ∀ y ∈ es.toList, x.key = y.key → x = y := by
    have hp : (es.toList.map (fun e => e.key)).Nodup := by
      have e2 : es.toList.map (fun e => e.key) = J.L.map (fun p => Value.int .i64 (p.k : Int)) := by
        have := congrArg (List.map Prod.fst) he
        simpa [List.map_map, Function.comp_def] using this
      rw [e2]
      have : J.L.map (fun p => Value.int .i64 (p.k : Int)) = (J.L.map Pt.k).map (fun k : Nat => Value.int .i64 (k : Int)) := by simp [List.map_map, Function.comp_def]
      rw [this]
      exact List.Pairwise.map _ (fun a b hab e => hab (by have e' : (a : Int) = (b : Int) := by simpa using e
                                                          omega)) hnd
    intro x hx y hy e
    obtain ⟨i, hi, rfl⟩ := List.getElem_of_mem hx
    obtain ⟨j, hj, rfl⟩ := List.getElem_of_mem hy
    have := (List.getElem_inj (i := i) (j := j) (h₀ := by simpa using hi) (h₁ := by simpa using hj) hp).1 (by simpa using e)
    subst this
    rfl
  have HK1 : Hid _ := hkeys
  have HK2 : Hid _ := hkeys2
  have HIJ : Hid _ := hinj
  have HBO : Hid _ := hborn
  have HBN : Hid _ := hbn
  have hR0 : Rg w gm w.heap.size es clock (.slice none 0 0) #[] [] (w.alloc (.mapIter (some gm) clock #[] clock)) :=
    ⟨⟨clock, heap_alloc_new w _, Nat.le_refl _⟩, (heap_alloc_old w _ hglt).trans hb, World.ownsRow_nil _ _ _ _, List.nodup_nil, fun k => by simp, (Below.refl _ _).alloc (Nat.le_refl _) _⟩
  have HR0 : Hid _ := hR0
  clear hD h hkeys hkeys2 hinj hborn hbn hb he hR0
  go_enter Tryz.func88, Tryz.ntmps88
  go_wp2_with fail
  refine H.mono ?_
  rintro e w' ⟨rfl, hw'⟩
  subst w'
  clear H
  go_wp2
  go_loopw [3] (fun nv wx => ∃ (seen : Array Nat) (N : List Nat), Hid (wx.iterSeen w.heap.size = seen) ∧ Hid (Rg w gm w.heap.size es clock nv seen N wx)) (fun _ wx => (leftOf es (wx.iterSeen w.heap.size)).size)
  case atStart => exact ⟨#[], [], World.iterSeen_alloc _ _ _ _ _, HR0⟩
  case round =>
    obtain ⟨seen, N, hse, hRg⟩ := hrel
    clear HR0 hrg c3
    have R0 : Rg w gm w.heap.size es clock u3 seen N wr := hRg
    obtain ⟨c0, hit, hc0⟩ := R0.it
    have hNK : ∀ k ∈ N, k ∈ J.L.map Pt.k := fun k hk => by
      obtain ⟨x, hx, _, e⟩ := (R0.mem k).1 hk
      obtain ⟨k', e', hk'⟩ := HK1.out x hx
      have : (k : Int) = (k' : Int) := by rw [e] at e'; simpa using e'
      have : k = k' := by omega
      rw [this]
      exact hk'
    have hNl : N.length ≤ J.L.length := by simpa using nodup_len N _ R0.nodup hNK
    have HR : Hid _ := R0
    have HM : Hid _ := R0.map
    have HIT : Hid _ := hit
    clear hRg R0 hit
    go_wp2_with (refine wpList_next_map rfl _ rfl w.heap.size gm clock c0 seen es clock rfl HIT.out HM.out HBO.out hc0 ?h0 ?h1)
    case h0 =>
      intro hz
      have hz1 := hz.out
      have hz2 : (leftOf es seen).size = 0 := by simpa using hz1
      have hseen := all_seen es seen hz2
      clear hz hz1 hz2
      have hmem : ∀ k, k ∈ N ↔ k ∈ J.L.map Pt.k := fun k => ⟨hNK k, fun hk => by
        obtain ⟨x, hx, e⟩ := HK2.out k hk
        exact (HR.out.mem k).2 ⟨x, hx, hseen x hx, e⟩⟩
      have hlen : N.length = J.L.length := by
        have := nodup_len (J.L.map Pt.k) N hnd (fun k hk => (hmem k).2 hk)
        simp at this
        omega
      have hsz := HR.out.old.size
      rcases own_ints HR.out.own with ⟨rfl, rfl⟩ | ⟨b, c, rfl, hbr, hI⟩
      · skip
        have HS := sort_nil wr
        have hK0 : Hid (KeysOf J.L []) := ⟨List.Pairwise.nil, hmem, hlen⟩
        go_wp2_with fail
        refine HS.mono ?_
        rintro e w' ⟨⟨v, rfl⟩, hw'⟩
        subst w'
        go_wp2
        go_ret
        exact ⟨.slice none 0 0, [], rfl, hK0.out, ⟨_, _, rfl, fun h => absurd h (by simp)⟩, HR.out.old⟩
      · skip
        have HS := sort_ok b N.length c _ wr (by omega) hI
        have HHS : Hid _ := HS
        have HM2 : Hid _ := hmem
        have HLN : Hid _ := hlen
        clear HS hI hmem hlen hseen hNK
        go_wp2_with fail
        refine Calls.mono HHS.out ?_
        rintro e w' ⟨⟨v, rfl⟩, F, hF, hAl, hSo, hOn⟩
        obtain ⟨K, hK, hKl, hFK⟩ := keys_sorted rfl HR.out.nodup HM2.out HLN.out hAl hSo
        have hb' : Below w.heap.size w w' := HR.out.old.trans (hOn.below (by omega))
        have hI' : Ints w' b K.length (fun i => (K.getD i 0 : Nat)) := by
          obtain ⟨cur, h1, h2, h3⟩ := hF.ex
          exact ⟨cur, h1, by omega, fun i hi => by rw [h3 i (by omega), hFK i (by omega)]⟩
        have HK' : Hid _ := hK
        have HI' : Hid _ := hI'
        have HKl : Hid _ := hKl
        clear hAl hSo hFK hI' hK hF hKl hNl
        go_wp2
        go_ret
        exact ⟨.slice (some ⟨b, 0, none⟩) N.length c, K, rfl, HK'.out, ⟨some ⟨b, 0, none⟩, c, by rw [show K.length = N.length from HKl.out], fun _ => ⟨b, rfl, by omega, HI'.out⟩⟩, hb'⟩
    case h1 =>
      intro e w1 W hh
      obtain ⟨hel, hw1, hW⟩ := hh.out
      have hel : e ∈ (leftOf es seen).toList := by simpa using hel
      obtain ⟨hees, hns⟩ := mem_left hel
      obtain ⟨k, hek, hkL⟩ := HK1.out e hees
      have hw1h : w1.heap = wr.heap := by rcases hw1 with rfl | rfl <;> rfl
      have hrlt : w.heap.size < wr.heap.size := (Array.getElem?_eq_some_iff.1 HIT.out).1
      have hitW : W.heap[w.heap.size]? = some (.mapIter (some gm) clock (seen.push e.born) clock) := by
        rw [hW]
        show (w1.heap.setIfInBounds _ _)[w.heap.size]? = _
        rw [hw1h, Array.getElem?_setIfInBounds_self_of_lt hrlt]
      have hothW : ∀ q, q ≠ w.heap.size → W.heap[q]? = wr.heap[q]? := fun q hq => by
        rw [hW]
        show (w1.heap.setIfInBounds _ _)[q]? = _
        rw [hw1h, Array.getElem?_setIfInBounds_ne (Ne.symm hq)]
      have hszW : W.heap.size = wr.heap.size := by
        rw [hW]
        show (w1.heap.setIfInBounds _ _).size = _
        rw [hw1h, Array.size_setIfInBounds]
      have hmapW : W.heap[gm]? = some (.map es clock) := (hothW gm (by omega)).trans HM.out
      have hownW : W.ownsRow (w.heap.size + 1) 3 1 u3 N.length (N.map fun k => Value.int .i64 (k : Nat)) := ownsRow_keep HR.out.own fun q hq _ => hothW q (by have := (ownsRow_lt HR.out.own q hq).2.1; omega)
      have hoW : W.os = wr.os ∧ W.tape = wr.tape ∧ W.output = wr.output := by rw [hW]; rcases hw1 with rfl | rfl <;> exact ⟨rfl, rfl, rfl⟩
      have hbW : Below w.heap.size w W := HR.out.old.trans ⟨hoW.1, hoW.2.1, hoW.2.2, by omega, fun q hq => hothW q (by omega)⟩
      have hent := run_entry_at (P := Tryz.prog) W w.heap.size gm clock seen es clock e hitW hmapW hees HBN.out
      have HOW : Hid _ := hownW
      have HHW : Hid _ := hitW
      have HMW : Hid _ := hmapW
      have HBW : Hid _ := hbW
      have hNk : k ∉ N := fun hk => by
        obtain ⟨x, hx, hs, ex⟩ := (HR.out.mem k).1 hk
        have := HIJ.out x hx e hees (by rw [ex, hek])
        subst this
        rw [hns] at hs
        cases hs
      have hmem' : ∀ q, q ∈ N ++ [k] ↔ ∃ x ∈ es.toList, (seen.push e.born).contains x.born = true ∧ x.key = .int .i64 (q : Nat) := fun q => by
        constructor
        · intro hq
          rcases List.mem_append.1 hq with hq | hq
          · obtain ⟨x, hx, hs, ex⟩ := (HR.out.mem q).1 hq
            exact ⟨x, hx, by rw [contains_push, hs]; rfl, ex⟩
          · simp at hq
            subst hq
            exact ⟨e, hees, by rw [contains_push]; simp, hek⟩
        · rintro ⟨x, hx, hs, ex⟩
          rw [contains_push] at hs
          rcases Bool.or_eq_true_iff.1 hs with hs | hs
          · exact List.mem_append.2 (.inl ((HR.out.mem q).2 ⟨x, hx, hs, ex⟩))
          · have hxe : x = e := born_inj HBN.out hx hees (by simpa using hs)
            subst hxe
            rw [hek] at ex
            have : (k : Int) = (q : Int) := by simpa using ex
            have : k = q := by omega
            simp [this]
      have hnd' : (N ++ [k]).Nodup := List.nodup_append.2 ⟨HR.out.nodup, by simp, fun a ha b hb => by simp at hb; subst hb; exact fun e => hNk (e ▸ ha)⟩
      have HME : Hid _ := hmem'
      have HND : Hid _ := hnd'
      have hshr : Hid ((leftOf es (seen.push e.born)).size < (leftOf es seen).size) := left_shrinks es seen e hel
      have hsize1 : w.heap.size + 1 ≤ W.heap.size := by omega
      have hN1000 : N.length ≤ 1000 := by omega
      rw [hek] at hent
      clear hW hh hel hees hns hw1 hw1h hszW hothW hownW hitW hmapW hbW hmem' hnd' hkL hNk hoW HIT HM
      rw [hek]
      go_wp2_with (at_builtin; refine wpList_num rfl _ _ rfl (w.heap.size + 1) u3 N k W rfl rfl HOW W.heap.size rfl rfl hN1000 hsize1 ?_)
      intro v' w3 own3 grow3
      have hO1 : (W.alloc (.cells #[.int .i64 k] 3)).ownsRow (w.heap.size + 1) 3 1 u3 N.length (N.map fun k => Value.int .i64 (k : Nat)) := World.ownsRow.alloc (show W.ownsRow _ 3 1 u3 N.length _ from HOW) _
      have hne : ∀ q, q ≤ w.heap.size → some q ≠ u3.ownBlock := fun q hq e => by have := (ownsRow_lt hO1 q e.symm).2.1; omega
      have hk3 : ∀ q, q ≤ w.heap.size → w3.heap[q]? = W.heap[q]? := fun q hq => (grow3.block q (by simp; omega) (hne q hq)).trans (heap_alloc_old W _ (by omega))
      have hR3 : Rg w gm w.heap.size es clock v' (seen.push e.born) (N ++ [k]) w3 :=
        ⟨⟨clock, (hk3 _ (Nat.le_refl _)).trans HHW.out, Nat.le_refl _⟩, (hk3 _ (by omega)).trans HMW.out, by simpa using own3.out, HND.out, HME.out, own_grown (ownsRow_base hO1 (by omega)) (HBW.out.alloc (by omega) _) (by simp; omega) grow3⟩
      have hS3 : Hid (w3.iterSeen w.heap.size = seen.push e.born) := by
        show World.iterSeen _ _ = _
        unfold World.iterSeen
        rw [hk3 _ (Nat.le_refl _), HHW.out]
      have HR3 : Hid _ := hR3
      clear hR3 own3 grow3 hO1 hne hk3 HOW HHW HMW HBW HME HND
      go_wp2
      go_roundw
      case rel => exact ⟨_, _, hS3, HR3⟩
      case measure => rw [hS3.out, hse.out]; exact hshr.out
end Go.Proofs.YtdbnnljlbfjobaaGreatDoor
