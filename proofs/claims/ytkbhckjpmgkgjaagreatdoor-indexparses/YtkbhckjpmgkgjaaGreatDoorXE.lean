/- My own work: slices.SortFunc at versions, the greatest first. My own work: Sort's first loop: versions and what is none, each in a row of its own. My own work: the walk of Sort, up to the sorting. My own work: what is sorted: all that there was, the greatest first, and sorted once. My own work: few, Versions, and packages in memory of their own. My own work: packages in memory of their own. My own work: each package counted once; packages told twice, needs told twice. My own work: the law IndexCounts. -/
import Derived.Test.YtkbhckjpmgkgjaaGreatDoorVQ
import Derived.Test.YtkbhckjpmgkgjaaGreatDoorShV
import Derived.Test.YtkbhckjpmgkgjaaGreatDoorShW
import Derived.Test.YtkbhckjpmgkgjaaGreatDoorVAp
import Derived.Test.YtkbhckjpmgkgjaaGreatDoorV11
import Derived.Laws.MakeOwn
import Derived.Deep.MidRow
import Derived.Deep.Onto
import Derived.OwnWalk
import Derived.Shelf.SlSortCmp.NoneTotal
import Derived.Test.YtkbhckjpmgkgjaaGreatDoorXC
import Derived.Great.BuildSlice
import Derived.Test.YtkbhckjpmgkgjaaGreatDoorDag2
namespace Go.Proofs.YtkbhckjpmgkgjaaGreatDoor
open Go.RowKit Go.Shelf Go.Lib Go.Sort

abbrev encV (v : Ver) : List Value := [.int .i64 v.n0, .int .i64 v.n1, .int .i64 v.n2, .int .i64 v.n3, .int .i64 v.cnt, .string v.tag]
instance : Inhabited Ver := ⟨zeroV⟩
/-- The greatest first. -/
def downV (a b : Ver) : Int := cmpV b a
theorem ltDown (x y : Ver) : ltOf downV x y = decide (cmpV y x < 0) := rfl
theorem swoV : SWO (ltOf downV) where
  irrefl x := by rw [ltDown, (cmpV_zero x x).2 rfl]; rfl
  trans x y z h1 h2 := by
    rw [ltDown, decide_eq_true_eq] at *
    have h3 := preV.tr z y x (by omega) (by omega)
    by_cases e : cmpV z x = 0
    · have e1 := (cmpV_zero z x).1 e
      subst e1
      have := preV.anti y z
      omega
    · omega
  ntrans x y z h1 h2 := by
    rw [ltDown, decide_eq_false_iff_not] at *
    have a1 := preV.anti y x
    have a2 := preV.anti z y
    have a3 := preV.anti z x
    have := preV.tr x y z (by omega) (by omega)
    omega
set_option maxRecDepth 20000 in
set_option maxHeartbeats 2000000 in
theorem closure_ok (a b : Ver) (W : World) : Calls Tryz.prog 60 #[.agg (verC a), .agg (verC b)] W fun e w' => e = .returned (.int .i64 (downV a b)) ∧ ∃ q os, w' = grow (W.drewN q) os := by
  have hA : Row (twoW W a b) W.heap.size (verC a) 112 := (Row.new W (verC a) 112).alloc _
  have hB : Row (twoW W a b) (W.heap.size + 1) (verC b) 112 := by
    have h := Row.new (W.alloc (.cells (verC a) 112)) (verC b) 112
    rw [World.size_alloc] at h
    exact h
  have HG : Hid (∃ q os, twoW (twoW W a b) b a = grow (W.drewN q) os) := ⟨0, _, by unfold twoW; rw [alloc_eq_grow, alloc_eq_grow, alloc_eq_grow, alloc_eq_grow, grow_grow, grow_grow, grow_grow]; rfl⟩
  obtain ⟨w2, hw2⟩ : ∃ x, x = twoW W a b := ⟨_, rfl⟩
  have hw2' := hw2.symm
  rw [← hw2] at hA hB HG
  have hc := compare_ok b a w2
  unfold downV
  generalize cmpV b a = c at *
  clear hw2
  go_enter Tryz.func60, Tryz.ntmps60
  go_wp2_with (first | (go_at_call 61; refine hc.mono ?_; rintro e w9 ⟨rfl, hw9⟩; rw [hw9]; clear hw9) | refine wpList_load_row rfl 112 _ rfl W.heap.size rfl 112 (verC a) (0, 0) _ hA Tryz.underlying112 rfl infoVs ?_ | refine wpList_load_row rfl 112 _ rfl (W.heap.size + 1) rfl 112 (verC b) (0, 0) _ hB Tryz.underlying112 rfl infoVs ?_)
  go_ret
  exact ⟨rfl, HG.out⟩
theorem cmpLaysV (blk off size : Nat) (w : World) : CmpLays Tryz.prog 60 #[] encV 6 downV blk off size w :=
  fun _ _ _ _ x y => closure_ok x y _
theorem sortV_ok (blk cap : Nat) (d : Array Ver) (w : World) (hH : HoldsK encV 6 w blk 0 d) (hblk : blk < w.heap.size) (hsz : d.size < 4611686018427387904) :
    Calls Tryz.prog 59 #[.slice (some ⟨blk, 0, none⟩) d.size cap, .func (.func 60) #[] #[]] w fun e w' => e = .returned (.tuple #[]) ∧ ∃ d' n os, PermIn 0 d.size d d' ∧ SortedIn (ltOf downV) 0 d.size d' ∧ w' = sortWorldK encV 6 w blk 0 n d' os :=
  AnyQ.slices_SortFunc Tryz.laysSf6 6 Tryz.isAgg112 Tryz.sizeOf112 encV (fun _ => rfl) (fun x u hu => by
    simp only [encV, List.mem_cons, List.not_mem_nil, or_false] at hu
    rcases hu with rfl | rfl | rfl | rfl | rfl | rfl <;> rfl) downV swoV 60 #[] blk 0 cap d w (enters_of Tryz.func60 (by kernel_rfl) rfl) (cmpLaysV blk 0 d.size w) hH hblk hsz
end Go.Proofs.YtkbhckjpmgkgjaaGreatDoor
namespace Go.Proofs.YtkbhckjpmgkgjaaGreatDoor
open Go.RowKit

theorem infoV : (Tryz.prog.info? 112).map (fun i => (i.zero, i.size, i.bytes)) = some (some (.agg zeroC), 6, 56) := by kernel_rfl
/-- Cells of versions, one behind another. -/
def flatV (L : List Ver) : List Value := (L.map encV).flatten
theorem flatV_len (L : List Ver) : (flatV L).length = L.length * 6 := by
  induction L with
  | nil => rfl
  | cons v L ih =>
    have h6 : (encV v).length = 6 := rfl
    show (encV v ++ flatV L).length = (L.length + 1) * 6
    rw [List.length_append, ih, h6]
    omega
theorem flatV_snoc (L : List Ver) (v : Ver) : flatV (L ++ [v]) = flatV L ++ encV v := by
  unfold flatV
  rw [List.map_append, List.flatten_append]
  simp
/-- One version is appended to a row of one's own. -/
theorem wpList_ap_ver {w w1 : World} {ops : Array Oper} {rest : List Oper} {o : Oper} {a : Act} {Q : Exit → Act → World → Prop} (hgd : o.guard = none) (dd : Option Tmp) (hdd : o.dst = dd) (s x : Operand) (ho : o.op = .call { callee := .builtin .append, args := #[s, x], argTypes := #[121, 121] }) (B : Nat) (v : Value) (n : Nat) (xs : List Value) (hs : a.eval s = v) (t : Ver) (hw : w1 = w.alloc (.cells (verC t) 112)) (g : Nat) (hg : g = w.heap.size) (hown : w1.ownsRow B 112 6 v n xs) (hx : a.eval x = .slice (some ⟨g, 0, none⟩) 1 1) (hB : B ≤ w.heap.size) (hby : (n + 1) * 56 ≤ 140737488355328)
    (h : ∀ v' w', w'.ownsRow B 112 6 v' (n + 1) (xs ++ encV t) → w1.grownBy w' v.ownBlock → wpList Tryz.prog ops Q rest (a.put dd v') w') : wpList Tryz.prog ops Q (o :: rest) a w1 := by
  subst hw hg
  refine wpList_plain hgd fun K hK => wp_append_any dd hdd s x 121 112 (.agg zeroC) 6 56 Tryz.underlying121 infoV rfl (by decide) ho B v n xs hs hown (some ⟨w.heap.size, 0, none⟩) w.heap.size 0 1 1 (encV t) rfl hx (fun _ => rfl) (fun j u hj => ?_) (fun u hu => ?_) (fun h => nomatch h) (by unfold maxLen; omega) hby (by simp; omega) (fun v' w' h1 h2 _ => hK _ _ (h v' w' h1 h2))
  · rw [Nat.zero_add, Row.cell (Row.new w (verC t) 112) j]
    show (encV t).toArray[j]? = _
    rw [List.getElem?_toArray]
    exact hj
  · simp only [encV, List.mem_cons, List.not_mem_nil, or_false] at hu
    rcases hu with rfl | rfl | rfl | rfl | rfl | rfl <;> rfl
/-- Texts that lie somewhere below. -/
structure TxAt (w : World) (a : Option Addr) (L : List ByteArray) (c : Nat) : Prop where
  ex : ∃ b off, (0 < L.length → a = some ⟨b, off, none⟩) ∧ ∀ i (h : i < L.length), w.cell? ⟨b, off + i, none⟩ = some (.string L[i])
  le : L.length ≤ c
  each : ∀ x ∈ L, x.size ≤ 140737488355328
/-- Which are versions' texts, and which are not. -/
def versOf (L : List ByteArray) : List Ver := L.filterMap fun s => parseV (vb s)
def restOf (L : List ByteArray) : List ByteArray := L.filter fun s => (parseV (vb s)).isNone
theorem versOf_snoc (L : List ByteArray) (s : ByteArray) {v : Ver} (h : parseV (vb s) = some v) : versOf (L ++ [s]) = versOf L ++ [v] ∧ restOf (L ++ [s]) = restOf L := by
  unfold versOf restOf
  rw [List.filterMap_append, List.filter_append]
  simp [h]
theorem restOf_snoc (L : List ByteArray) (s : ByteArray) (h : parseV (vb s) = none) : versOf (L ++ [s]) = versOf L ∧ restOf (L ++ [s]) = restOf L ++ [s] := by
  unfold versOf restOf
  rw [List.filterMap_append, List.filter_append]
  simp [h]
theorem versOf_len (L : List ByteArray) : (versOf L).length + (restOf L).length = L.length := by
  unfold versOf restOf
  induction L with
  | nil => rfl
  | cons s L ih =>
    cases h : parseV (vb s) with
    | none => simp only [List.filterMap_cons, h, List.filter_cons, Option.isNone_none, if_true, List.length_cons]; omega
    | some v => simp only [List.filterMap_cons, h, List.filter_cons, Option.isNone_some, List.length_cons]; simp; omega
/-- What holds behind k texts. -/
structure SoR (w wr : World) (L : List ByteArray) (k : Nat) (vv ov : Value) : Prop where
  vers : wr.ownsRow w.heap.size 112 6 vv (versOf (L.take k)).length (flatV (versOf (L.take k)))
  rest : wr.ownsRow w.heap.size 9 1 ov (restOf (L.take k)).length ((restOf (L.take k)).map Value.string)
  bel : Below w.heap.size w wr
  tab : Pw wr
  glob : 2 < w.heap.size
theorem SoR.next {w wr w' : World} {L : List ByteArray} {k : Nat} {vv ov : Value} (h : SoR w wr L k vv ov) (hb : Below wr.heap.size wr w') : SoR w w' L k vv ov :=
  ⟨own_below h.vers hb, own_below h.rest hb, h.bel.trans (hb.mono h.bel.size), h.tab.keep hb h.tab.lt, h.glob⟩
theorem own_apart {w : World} {B n m : Nat} {v v' : Value} {xs ys : List Value} (h : w.ownsRow B 112 6 v n xs) (h' : w.ownsRow B 9 1 v' m ys) : v.ownBlock = none ∨ v.ownBlock ≠ v'.ownBlock := by
  cases e : v.ownBlock with
  | none => exact Or.inl rfl
  | some k =>
    refine Or.inr fun e' => ?_
    obtain ⟨C, hC⟩ := ownsRow_row h k e
    obtain ⟨D, hD⟩ := ownsRow_row h' k e'.symm
    rw [hC] at hD
    simp at hD
theorem below_own {w w' : World} {B : Nat} {row : Option Nat} (hg : w.grownBy w' row) (hB : B ≤ w.heap.size) (hr : ∀ k, row = some k → B ≤ k) : Below B w w' :=
  ⟨hg.os, hg.tape, hg.output, hg.size, fun k hk => hg.block k (by omega) fun e => by have := hr k e.symm; omega⟩
theorem SoR.ver {w w1 w' : World} {L : List ByteArray} {k : Nat} {vv ov vv' : Value} {v : Ver} (h : SoR w w1 L k vv ov) (hk : k < L.length) (hp : parseV (vb L[k]) = some v) (ho : w'.ownsRow w.heap.size 112 6 vv' ((versOf (L.take k)).length + 1) (flatV (versOf (L.take k)) ++ encV v)) (hg : w1.grownBy w' vv.ownBlock) : SoR w w' L (k + 1) vv' ov := by
  have e : L.take (k + 1) = L.take k ++ [L[k]] := by rw [List.take_add_one, List.getElem?_eq_getElem hk]; rfl
  obtain ⟨e1, e2⟩ := versOf_snoc (L.take k) L[k] hp
  have hb : Below w.heap.size w1 w' := below_own hg h.bel.size (fun j hj => (h.vers.lt j hj).1)
  refine ⟨?_, ?_, h.bel.trans hb, h.tab.keep hb h.glob, h.glob⟩
  · rw [e, e1, flatV_snoc, List.length_append]
    exact ho
  · rw [e, e2]
    exact h.rest.kept hg (by
      rcases own_apart h.vers h.rest with h1 | h1
      · cases e3 : ov.ownBlock with
        | none => exact Or.inl rfl
        | some j => exact Or.inr (by rw [h1]; simp)
      · exact Or.inr (Ne.symm h1))
theorem SoR.none {w w1 w' : World} {L : List ByteArray} {k : Nat} {vv ov ov' : Value} (h : SoR w w1 L k vv ov) (hk : k < L.length) (hp : parseV (vb L[k]) = none) (ho : w'.ownsRow w.heap.size 9 1 ov' ((restOf (L.take k)).length + 1) ((restOf (L.take k)).map Value.string ++ [.string L[k]])) (hg : w1.grownBy w' ov.ownBlock) : SoR w w' L (k + 1) vv ov' := by
  have e : L.take (k + 1) = L.take k ++ [L[k]] := by rw [List.take_add_one, List.getElem?_eq_getElem hk]; rfl
  obtain ⟨e1, e2⟩ := restOf_snoc (L.take k) L[k] hp
  have hb : Below w.heap.size w1 w' := below_own hg h.bel.size (fun j hj => (h.rest.lt j hj).1)
  refine ⟨?_, ?_, h.bel.trans hb, h.tab.keep hb h.glob, h.glob⟩
  · rw [e, e1]
    exact h.vers.kept hg (own_apart h.vers h.rest)
  · rw [e, e2, List.map_append, List.length_append]
    exact ho
end Go.Proofs.YtkbhckjpmgkgjaaGreatDoor
namespace Go.Proofs.YtkbhckjpmgkgjaaGreatDoor
open Go.RowKit Go.Sort

theorem flatV_at (L : List Ver) (t : Nat) (h : t < L.length * 6) : (flatV L)[t]? = (encV (L[t / 6]'(by omega)))[t % 6]? := by
  induction L generalizing t with
  | nil => simp at h
  | cons v L ih =>
    have h6 : (encV v).length = 6 := rfl
    show (encV v ++ flatV L)[t]? = _
    by_cases ht : t < 6
    · rw [List.getElem?_append_left (by rw [h6]; exact ht)]
      have e1 : t / 6 = 0 := by omega
      have e2 : t % 6 = t := by omega
      simp only [e1, e2]
      rfl
    · rw [List.getElem?_append_right (by rw [h6]; omega), h6, ih (t - 6) (by rw [List.length_cons] at h; omega)]
      have e1 : t / 6 = (t - 6) / 6 + 1 := by omega
      have e2 : t % 6 = (t - 6) % 6 := by omega
      simp only [e1, e2, List.getElem_cons_succ]
theorem holds_own {w : World} {B g cap : Nat} {L : List Ver} (h : w.ownsRow B 112 6 (.slice (some ⟨g, 0, none⟩) L.length cap) L.length (flatV L)) : HoldsK encV 6 w g 0 L.toArray := by
  intro j hj
  rw [size_flatK, List.size_toArray] at hj
  rw [Nat.zero_add, get_flatK _ _ _ _ (by rw [List.size_toArray]; exact hj)]
  refine ⟨?_, h.frozenAt j⟩
  rw [h.cellAt j hj, flatV_at L j hj]
  have hl : j / 6 < L.length := by omega
  have hm : j % 6 < 6 := Nat.mod_lt _ (by decide)
  rw [getElem!_pos L.toArray (j / 6) (by rw [List.size_toArray]; exact hl)]
  simp only [List.getElem_toArray]
  rw [getElem!_pos (encV L[j / 6]) (j % 6) hm, List.getElem?_eq_getElem hm]
  rfl
theorem sort_other {w : World} {blk off m j : Nat} {dk : Array Ver} {os : Array Obj} (hj : j ≠ blk) (hl : j < w.heap.size) : (sortWorldK encV 6 w blk off m dk os).heap[j]? = w.heap[j]? := by
  unfold sortWorldK grow putRowK putRow mapBlock
  show ((w.heap.modify blk _) ++ os)[j]? = _
  rw [Array.getElem?_append_left (by simpa using hl), Array.getElem?_modify, if_neg (Ne.symm hj)]
theorem sort_grown {w : World} {blk off m : Nat} {dk : Array Ver} {os : Array Obj} : w.grownBy (sortWorldK encV 6 w blk off m dk os) (some blk) := by
  refine ⟨rfl, rfl, rfl, ?_, fun k hk hne => sort_other (fun e => hne (by rw [e])) hk⟩
  unfold sortWorldK grow putRowK putRow mapBlock
  show w.heap.size ≤ ((w.heap.modify blk _) ++ os).size
  rw [Array.size_append, Array.size_modify]
  show w.heap.size ≤ w.heap.size + _
  omega
/-- The greatest first. -/
def Falls (L : List Ver) : Prop := L.Pairwise fun a b => 0 ≤ cmpV a b
/-- Versions in a row that is only read from now on. -/
structure VsAt (w : World) (vv : Value) (L : List Ver) (B : Nat) : Prop where
  ex : ∃ (a : Option Addr) (g cap : Nat), vv = .slice a L.length cap ∧ (0 < L.length → a = some ⟨g, 0, none⟩ ∧ g < B) ∧ L.length ≤ cap ∧ ∀ t u, t < L.length * 6 → (flatV L)[t]? = some u → w.cell? ⟨g, t, none⟩ = some u
theorem VsAt.keep {w w' : World} {vv : Value} {L : List Ver} {B : Nat} (h : VsAt w vv L B) (hb : Below B w w') : VsAt w' vv L B := by
  obtain ⟨a, g, cap, h1, h2, h3, h4⟩ := h.ex
  refine ⟨a, g, cap, h1, h2, h3, fun t u ht hu => ?_⟩
  have hg := (h2 (by omega)).2
  exact (hb.cell (p := ⟨g, t, none⟩) hg).trans (h4 t u ht hu)
theorem extract_all {α : Type} (d : Array α) : (d.extract 0 d.size).toList = d.toList := by simp
/-- slices.SortFunc on versions in a row of one's own. -/
theorem sort_any {w : World} {B : Nat} {vv : Value} {L : List Ver} (h : w.ownsRow B 112 6 vv L.length (flatV L)) (hl : L.length ≤ 1000) : Calls Tryz.prog 59 #[vv, .func (.func 60) #[] #[]] w fun e w' => e = .returned (.tuple #[]) ∧ ∃ vs : List Ver, vs.Perm L ∧ Falls vs ∧ VsAt w' vv vs w'.heap.size ∧ w.grownBy w' vv.ownBlock := by
  by_cases h0 : L.length = 0
  · have hL : L = [] := List.eq_nil_of_length_eq_zero h0
    subst hL
    obtain ⟨a, cap, hvv⟩ : ∃ a cap, vv = .slice a 0 cap := by
      obtain ⟨_, ⟨rfl, _⟩ | ⟨g, cap, cur, rfl, _⟩⟩ := h
      · exact ⟨_, _, rfl⟩
      · exact ⟨_, _, rfl⟩
    subst hvv
    refine (AnyF.slices_SortFunc_none Tryz.laysSf6 a cap (.func (.func 60) #[] #[]) w).mono ?_
    rintro e w' ⟨rfl, rfl⟩
    exact ⟨rfl, [], List.Perm.refl _, List.Pairwise.nil, ⟨a, 0, cap, rfl, fun h => absurd h (by simp), Nat.zero_le _, fun t u ht => absurd ht (by simp)⟩, ⟨rfl, rfl, rfl, Nat.le_refl _, fun _ _ _ => rfl⟩⟩
  · have h' := h
    obtain ⟨_, ⟨_, h1⟩ | ⟨g, cap, cur, rfl, hBg, hrow, hnc, _, _, _⟩⟩ := h
    · exact absurd h1 h0
    have hlt : g < w.heap.size := (Array.getElem?_eq_some_iff.1 hrow).1
    have hH := holds_own h'
    have H := sortV_ok g cap L.toArray w hH hlt (by rw [List.size_toArray]; omega)
    rw [List.size_toArray] at H
    refine H.mono ?_
    rintro e w' ⟨rfl, d', m, os, hP, hS, rfl⟩
    obtain ⟨p1, _, p3⟩ := hP
    have p1 : d'.size = L.length := by simpa using p1
    have hperm : d'.toList.Perm L := by
      have e1 : (d'.extract 0 L.length).toList = d'.toList := by rw [← p1]; exact extract_all d'
      have e2 : (L.toArray.extract 0 L.length).toList = L := by
        have := extract_all L.toArray
        rw [List.size_toArray] at this
        rw [this]
      rw [e1, e2] at p3
      exact p3
    have hH2 := holdsK_sortWorldK encV 6 w g 0 m L.toArray d' os hlt hH (by rw [List.size_toArray]; exact p1)
    refine ⟨rfl, d'.toList, hperm, ?_, ⟨some ⟨g, 0, none⟩, g, cap, by rw [hperm.length_eq], fun _ => ⟨rfl, lt_sortWorldK encV 6 w g 0 m d' os hlt⟩, by rw [hperm.length_eq]; exact hnc, fun t u ht hu => ?_⟩, sort_grown⟩
    · unfold Falls
      rw [List.pairwise_iff_getElem]
      intro i j hi hj hij
      have hi' : i < d'.size := by simpa using hi
      have hj' : j < d'.size := by simpa using hj
      have h5 := hS i j (Nat.zero_le _) hij (by omega)
      rw [getElem!_pos d' i hi', getElem!_pos d' j hj', ltDown, decide_eq_false_iff_not] at h5
      simp only [Array.getElem_toList]
      omega
    · rw [Array.length_toList] at ht
      have h5 := (hH2 t (by rw [size_flatK]; exact ht)).1
      rw [Nat.zero_add, get_flatK _ _ _ _ ht] at h5
      rw [flatV_at d'.toList t (by rw [Array.length_toList]; exact ht)] at hu
      rw [h5]
      have hl6 : t / 6 < d'.size := by omega
      have hm : t % 6 < 6 := Nat.mod_lt _ (by decide)
      rw [getElem!_pos d' (t / 6) hl6, getElem!_pos (encV d'[t / 6]) (t % 6) hm]
      simp only [Array.getElem_toList] at hu
      rw [List.getElem?_eq_getElem hm] at hu
      exact hu
/-- All texts of a row are appended to a row of one's own. -/
theorem wpList_ap_all {w : World} {ops : Array Oper} {rest : List Oper} {o : Oper} {a : Act} {Q : Exit → Act → World → Prop} (hgd : o.guard = none) (dd : Option Tmp) (hdd : o.dst = dd) (s x : Operand) (ho : o.op = .call { callee := .builtin .append, args := #[s, x], argTypes := #[38, 38] }) (B : Nat) (v : Value) (n : Nat) (xs : List Value) (hs : a.eval s = v) (hown : w.ownsRow B 9 1 v n xs) (ra : Option Addr) (rg cap : Nat) (X : List ByteArray) (hx : a.eval x = .slice ra X.length cap) (hat : 0 < X.length → ra = some ⟨rg, 0, none⟩) (hnone : ra = none → X.length = 0 ∧ cap = 0) (hcell : ∀ t u, (X.map Value.string)[t]? = some u → w.cell? ⟨rg, 0 + t, none⟩ = some u) (hB : B ≤ w.heap.size) (hby : (n + X.length) * 16 ≤ 140737488355328)
    (h : ∀ v' w', w'.ownsRow B 9 1 v' (n + X.length) (xs ++ X.map Value.string) → w.grownBy w' v.ownBlock → wpList Tryz.prog ops Q rest (a.put dd v') w') : wpList Tryz.prog ops Q (o :: rest) a w :=
  wpList_plain hgd fun K hK => wp_append_any dd hdd s x 38 9 (.string ⟨#[]⟩) 1 16 Tryz.underlying38 info9 rfl (by decide) ho B v n xs hs hown ra rg 0 X.length cap (X.map Value.string) (by simp) hx hat hcell (fun u hu => by obtain ⟨y, _, rfl⟩ := List.mem_map.1 hu; rfl) hnone (by unfold maxLen; omega) hby hB (fun v' w' h1 h2 _ => hK _ _ (h v' w' h1 h2))
/-- What Sort tells. -/
def SortPost (L : List ByteArray) (w : World) (e : Ending) (w' : World) : Prop :=
  ∃ (vs : List Ver) (rv : Value), e = .returned rv ∧ vs.Perm (versOf L) ∧ Falls vs ∧ w'.ownsRow w.heap.size 9 1 rv L.length ((vs.map (fun v => tx (textV v)) ++ restOf L).map Value.string) ∧ Below w.heap.size w w'
/-- What holds while the texts are told. -/
structure SoT (w5 wr : World) (vs : List Ver) (k : Nat) (sv : Value) : Prop where
  own : wr.ownsRow w5.heap.size 9 1 sv k ((vs.take k).map fun v => Value.string (tx (textV v)))
  bel : Below w5.heap.size w5 wr
  tab : Pw wr
  low : w5.heap.size ≤ wr.heap.size
  glob : 2 < w5.heap.size
theorem SoT.next {w5 wr w' : World} {vs : List Ver} {k : Nat} {sv : Value} (h : SoT w5 wr vs k sv) (hb : Below wr.heap.size wr w') : SoT w5 w' vs k sv :=
  ⟨own_below h.own hb, h.bel.trans (hb.mono h.low), h.tab.keep hb h.tab.lt, Nat.le_trans h.low hb.size, h.glob⟩
theorem SoT.more {w5 w1 w' : World} {vs : List Ver} {k : Nat} {sv sv' : Value} (h : SoT w5 w1 vs k sv) (hk : k < vs.length) (ho : w'.ownsRow w5.heap.size 9 1 sv' (k + 1) (((vs.take k).map fun v => Value.string (tx (textV v))) ++ [.string (tx (textV vs[k]))])) (hg : w1.grownBy w' sv.ownBlock) : SoT w5 w' vs (k + 1) sv' := by
  have hb : Below w5.heap.size w1 w' := below_own hg h.low (fun j hj => (h.own.lt j hj).1)
  refine ⟨?_, h.bel.trans hb, h.tab.keep hb h.glob, Nat.le_trans h.low hg.size, h.glob⟩
  rw [List.take_add_one, List.getElem?_eq_getElem hk, List.map_append]
  exact ho
theorem parse_may {s : By} {v : Ver} (h : parseV s = some v) : mayV v = true := (mayV_iff v).2 (parse_back h).1
theorem vers_may {L : List ByteArray} {v : Ver} (h : v ∈ versOf L) : mayV v = true := by
  unfold versOf at h
  obtain ⟨s, _, hs⟩ := List.mem_filterMap.1 h
  exact parse_may hs
theorem VsAt.range {w : World} {vv : Value} {L : List Ver} {B : Nat} (h : VsAt w vv L B) (hl : 0 < L.length) : ∃ g cap, vv = .slice (some ⟨g, 0, none⟩) L.length cap ∧ L.length ≤ cap ∧ ∀ k (hk : k < L.length), ∀ j u, (encV L[k])[j]? = some u → w.cell? ⟨g, k * 6 + j, none⟩ = some u := by
  obtain ⟨a, g, cap, h1, h2, h3, h4⟩ := h.ex
  refine ⟨g, cap, by rw [h1, (h2 hl).1], h3, fun k hk j u hj => ?_⟩
  have hj6 : j < 6 := (List.getElem?_eq_some_iff.1 hj).1
  have hlt : k * 6 + j < L.length * 6 := by omega
  refine h4 (k * 6 + j) u hlt ?_
  rw [flatV_at L (k * 6 + j) hlt]
  have e1 : (k * 6 + j) / 6 = k := by omega
  have e2 : (k * 6 + j) % 6 = j := by omega
  simp only [e1, e2]
  exact hj
set_option maxRecDepth 20000 in
set_option maxHeartbeats 16000000 in
theorem sort_ok (L : List ByteArray) (la : Option Addr) (lc : Nat) (w : World) (hL : TxAt w la L lc) (hn : L.length ≤ 1000) (hT : Pw w) : Calls Tryz.prog 33 #[.slice la L.length lc] w (SortPost L w) := by
  obtain ⟨b, off, ha, hcells⟩ := hL.ex
  have hbl : 0 < L.length → b < w.heap.size := fun h => World.block_lt_of_cell? w _ (hcells 0 h)
  have HCL : Hid (∀ wx, Below w.heap.size w wx → ∀ i (h : i < L.length), wx.cell? ⟨b, off + i, none⟩ = some (.string L[i])) := fun wx hx i h => (hx.cell (p := ⟨b, off + i, none⟩) (hbl (by omega))).trans (hcells i h)
  have HA : Hid _ := ha
  have HE : Hid _ := hL.each
  have hlc := hL.le
  obtain ⟨n, hnl⟩ : ∃ n, n = L.length := ⟨_, rfl⟩
  have HN : Hid _ := hnl
  rw [← hnl] at hlc hn
  rw [← hnl]
  have HS0 : Hid (SoR w w L 0 (.slice none 0 0) (.slice none 0 0)) := ⟨World.ownsRow_nil _ _ _ _, World.ownsRow_nil _ _ _ _, Below.refl _ _, hT, hT.lt⟩
  have HPA : Hid (∀ s wx, s ∈ L → Calls Tryz.prog 54 #[.string s] wx fun e w' => e = .returned (parseE s) ∧ Below wx.heap.size wx w') := fun s wx hs => parse_ok s wx (HE.out s hs)
  have HCO : Hid (∀ s wx, s ∈ L → Calls Tryz.prog 58 #[.string s] wx fun e w' => e = .returned (.string s) ∧ Below wx.heap.size wx w') := fun s wx hs => clone_ok s wx (HE.out s hs)
  clear ha hcells hbl hL hnl hT
  go_enter Tryz.func33, Tryz.ntmps33
  go_wp2
  go_loopw [3, 4, 16] (fun vv ov i wr => ∃ k : Nat, k ≤ n ∧ i = .int .i64 k ∧ SoR w wr L k vv ov) (fun _ _ i _ => n - (intOf i).toNat)
  case atStart => exact ⟨0, Nat.zero_le _, rfl, HS0.out⟩
  case round =>
    obtain ⟨k, hk, rfl, hS⟩ := hrel
    have HS : Hid (SoR w wr L k u3 u4) := hS
    clear hS
    by_cases hlt : k < n
    · have hkl : k < L.length := by have := HN.out; omega
      have hlt' : (k : Int) < (n : Int) := by omega
      obtain rfl := HA.out (by omega)
      have hcell := HCL.out wr (SoR.bel HS.out) k hkl
      obtain ⟨x, hx⟩ : ∃ x, x = L[k] := ⟨_, rfl⟩
      have HX : Hid (L[k] = x) := hx.symm
      have hxm : x ∈ L := by rw [hx]; exact List.getElem_mem _
      rw [← hx] at hcell
      have hp := HPA.out x wr hxm
      have hlv : (versOf (L.take k)).length ≤ 1000 ∧ (restOf (L.take k)).length ≤ 1000 := by
        have := versOf_len (L.take k)
        rw [List.length_take] at this
        omega
      clear hx
      cases hpv : parseV (vb x) with
      | some v =>
        rw [parseE_yes hpv] at hp
        have HPV : Hid (parseV (vb x) = some v) := hpv
        clear hpv
        go_wp2_with fail
        refine hp.mono ?_
        rintro e w3 ⟨rfl, hb3⟩
        have h3 := SoR.next HS.out hb3
        have h4 := h3.next ((Below.refl _ _).alloc (Nat.le_refl _) (.cells (verC v) 112))
        have hr4 : Row (w3.alloc (.cells (verC v) 112)) w3.heap.size (verC v) 112 := Row.new _ _ _
        obtain ⟨w4, hw4⟩ : ∃ z, z = w3.alloc (.cells (verC v) 112) := ⟨_, rfl⟩
        rw [← hw4] at h4 hr4
        have hw4' := hw4.symm
        have h5 := h4.next ((Below.refl _ _).alloc (Nat.le_refl _) (.cells (verC v) 112))
        have HS5 : Hid (SoR w (w4.alloc (.cells (verC v) 112)) L k u3 u4) := h5
        have HR4 : Hid (Row w4 w3.heap.size (verC v) 112) := hr4
        have hlow := h4.bel.size
        clear hp hb3 h3 h4 h5 hcell hw4 hr4
        go_wp2_with (first | refine wpList_store_new rfl 112 _ _ rfl w3 zeroC (verC v) 112 rfl w3.heap.size rfl rfl rfl infoVs rfl (verC_one _) ?_ | refine wpList_load_row rfl 112 _ rfl w3.heap.size rfl 112 (verC v) (0, 0) _ HR4.out Tryz.underlying112 rfl infoVs ?_ | (at_builtin; refine wpList_ap_ver rfl (some 30) rfl _ _ rfl w.heap.size u3 (versOf (L.take k)).length (flatV (versOf (L.take k))) rfl v rfl w4.heap.size rfl (SoR.vers HS5.out) rfl hlow (by omega) ?_; intro v6 w6 ho6 hg6))
        have HS6 : Hid (SoR w w6 L (k + 1) v6 u4) := SoR.ver HS5.out hkl (by rw [HX.out]; exact HPV.out) ho6 hg6
        clear ho6 hg6
        go_roundw
        case rel => exact ⟨k + 1, by omega, by go_num, HS6.out⟩
        case measure => simp [intOf]; omega
      | none =>
        rw [parseE_no hpv] at hp
        have HPV : Hid (parseV (vb x) = none) := hpv
        clear hpv
        go_wp2_with fail
        refine hp.mono ?_
        rintro e w3 ⟨rfl, hb3⟩
        have h3 := SoR.next HS.out hb3
        have h4 := h3.next ((Below.refl _ _).alloc (Nat.le_refl _) (.cells zeroC 112))
        have HS4 : Hid (SoR w (w3.alloc (.cells zeroC 112)) L k u3 u4) := h4
        clear hp hb3 h3 h4 hcell
        go_wp2_with (refine wpList_store_new rfl 112 _ _ rfl w3 zeroC zeroC 112 rfl w3.heap.size rfl rfl rfl infoVs rfl zeroC_one ?_)
        refine (HCO.out x _ hxm).mono ?_
        rintro e w5 ⟨rfl, hb5⟩
        have h5 := SoR.next HS4.out hb5
        have hlow := h5.bel.size
        have h6 := h5.next ((Below.refl _ _).alloc (Nat.le_refl _) (.cells #[.string x] 9))
        have HS6 : Hid (SoR w (w5.alloc (.cells #[.string x] 9)) L k u3 u4) := h6
        clear hb5 h5 h6
        go_wp2_with (at_builtin; refine wpList_ap_one rfl (some 35) rfl _ _ rfl w.heap.size u4 (restOf (L.take k)).length ((restOf (L.take k)).map Value.string) rfl x rfl w5.heap.size rfl (SoR.rest HS6.out) rfl hlow (by omega) ?_; intro v7 w7 ho7 hg7)
        have HS7 : Hid (SoR w w7 L (k + 1) u3 v7) := SoR.none HS6.out hkl (by rw [HX.out]; exact HPV.out) (by rw [HX.out]; exact ho7) hg7
        clear ho7 hg7
        go_roundw
        case rel => exact ⟨k + 1, by omega, by go_num, HS7.out⟩
        case measure => simp [intOf]; omega
    · have hlt' : ¬ (k : Int) < (n : Int) := by omega
      have hkL : L.take k = L := List.take_of_length_le (by have := HN.out; omega)
      have hSv := SoR.vers HS.out
      have hSr := SoR.rest HS.out
      rw [hkL] at hSv hSr
      have hvl := versOf_len L
      have hsa := sort_any hSv (by have := HN.out; omega)
      have HSr : Hid (wr.ownsRow w.heap.size 9 1 u4 (restOf L).length ((restOf L).map Value.string)) := hSr
      have HAP : Hid (u3.ownBlock = none ∨ u3.ownBlock ≠ u4.ownBlock) := own_apart hSv hSr
      have HLT : Hid (∀ j, u3.ownBlock = some j → w.heap.size ≤ j) := fun j hj => (hSv.lt j hj).1
      clear hkL hSv hSr
      go_wp2_with fail
      refine hsa.mono ?_
      rintro e w5 ⟨rfl, vs, hperm, hfall, hvs, hgr⟩
      have hb5 : Below w.heap.size wr w5 := below_own hgr (SoR.bel HS.out).size HLT.out
      have HR5 : Hid (w5.ownsRow w.heap.size 9 1 u4 (restOf L).length ((restOf L).map Value.string)) := HSr.out.kept hgr (by
        rcases HAP.out with h1 | h1
        · cases e3 : u4.ownBlock with
          | none => exact Or.inl rfl
          | some j => exact Or.inr (by rw [h1]; simp)
        · exact Or.inr (Ne.symm h1))
      have HB5 : Hid (Below w.heap.size w w5) := (SoR.bel HS.out).trans hb5
      have HT5 : Hid (Pw w5) := (SoR.tab HS.out).keep hb5 (SoR.glob HS.out)
      have HV5 : Hid (VsAt w5 u3 vs w5.heap.size) := hvs
      have HPM : Hid (vs.Perm (versOf L)) := hperm
      have HFA : Hid (Falls vs) := hfall
      have hvlen : vs.length + (restOf L).length = n := by rw [hperm.length_eq, hvl]; exact HN.out.symm
      obtain ⟨i0, hi0, hz0, hz1, hz2⟩ := info_parts info9
      obtain ⟨w6, hmk, hown6, hgr6⟩ := run_make_own (P := Tryz.prog) w5 w5.heap.size 38 9 i0 _ 1 Tryz.underlying38 hi0 hz0 hz1 .i64 .i64 n (by rw [hz2]; omega) (by unfold maxLen; omega) (Nat.le_refl _)
      have hb6 : Below w5.heap.size w5 w6 := ⟨hgr6.os, hgr6.tape, hgr6.output, hgr6.size, fun k hk => hgr6.block k hk (fun e => by cases e)⟩
      have HS6 : Hid (SoT w5 w6 vs 0 (.slice (some ⟨w5.heap.size, 0, none⟩) 0 n)) := ⟨hown6, hb6, HT5.out.keep hb6 HT5.out.lt, hgr6.size, HT5.out.lt⟩
      obtain ⟨va, vg, vcap, hvv, hv2, hv3, hv4⟩ := HV5.out.ex
      subst hvv
      obtain ⟨m, hm⟩ : ∃ m, m = vs.length := ⟨_, rfl⟩
      have HMl : Hid _ := hm
      rw [← hm] at hvlen hv3
      rw [← hm]
      clear hsa hvs hgr hb5 hperm hfall hvl hi0 hz0 hz1 hz2 hown6 hgr6 hb6 hv2 hv4 hm
      go_wp2
      clear hmk
      have HTX : Hid (∀ v wx, v ∈ vs → Pw wx → Calls Tryz.prog 62 #[verV v] wx fun e w' => e = .returned (.tuple #[.string (tx (textV v)), .int .i64 0]) ∧ Below wx.heap.size wx w') := fun v wx hv hx => by
        have h := text_ok v wx hx
        rw [textE_yes (vers_may (HPM.out.mem_iff.1 hv))] at h
        exact h
      obtain ⟨wE, hwE⟩ : ∃ x, x = wr := ⟨_, rfl⟩
      go_loopw [9, 44] (fun sv i wq => ∃ j : Nat, j ≤ m ∧ i = .int .i64 j ∧ SoT w5 wq vs j sv) (fun _ i _ => m - (intOf i).toNat)
      case atStart => exact ⟨0, Nat.zero_le _, rfl, HS6.out⟩
      case round =>
        obtain ⟨j, hj, rfl, hSt⟩ := hrel
        have HSt : Hid (SoT w5 wr vs j u9) := hSt
        clear hSt
        by_cases hjl : j < m
        · have hjl' : (j : Int) < (m : Int) := by omega
          have hjv : j < vs.length := by have := HMl.out; omega
          obtain ⟨g, cap, hge, hgc, hgcell⟩ := (HV5.out.keep (SoT.bel HSt.out)).range (by omega)
          simp only [Value.slice.injEq] at hge
          obtain ⟨rfl, _, rfl⟩ := hge
          obtain ⟨v, hv⟩ : ∃ v, v = vs[j] := ⟨_, rfl⟩
          have HVx : Hid (vs[j] = v) := hv.symm
          have hvm : v ∈ vs := by rw [hv]; exact List.getElem_mem _
          have hrg : wr.rangeAt g (j * 6) (encV v) := fun t u ht => hgcell j hjv t u (by rw [← hv]; exact ht)
          have hr7 : Row (wr.alloc (.cells (verC v) 112)) wr.heap.size (verC v) 112 := Row.new _ _ _
          have hS7 := SoT.next HSt.out ((Below.refl _ _).alloc (Nat.le_refl _) (.cells (verC v) 112))
          obtain ⟨w7, hw7⟩ : ∃ z, z = wr.alloc (.cells (verC v) 112) := ⟨_, rfl⟩
          rw [← hw7] at hr7 hS7
          have hw7' := hw7.symm
          have HR7 : Hid (Row w7 wr.heap.size (verC v) 112) := hr7
          have HS7 : Hid (SoT w5 w7 vs j u9) := hS7
          have htx := HTX.out v w7 hvm (SoT.tab HS7.out)
          obtain ⟨t, ht⟩ : ∃ t, t = tx (textV v) := ⟨_, rfl⟩
          have HTt : Hid (tx (textV v) = t) := ht.symm
          rw [← ht] at htx
          clear hgcell hv hr7 hS7 hw7 ht
          go_upto_region 16 with (first | refine wpList_load_mid rfl 112 _ rfl g (j * 6) rfl (encV v) _ hrg Tryz.underlying112 rfl infoVs ?_ | refine wpList_store_new rfl 112 _ _ rfl wr zeroC (verC v) 112 rfl wr.heap.size rfl rfl rfl infoVs rfl (verC_one _) ?_)
          have q0 : w7.cell? ⟨wr.heap.size, 0, none⟩ = some (.int .i64 v.n0) := (Row.cell HR7.out 0).trans rfl
          have q1 : w7.cell? ⟨wr.heap.size, 1, none⟩ = some (.int .i64 v.n1) := (Row.cell HR7.out 1).trans rfl
          have q2 : w7.cell? ⟨wr.heap.size, 2, none⟩ = some (.int .i64 v.n2) := (Row.cell HR7.out 2).trans rfl
          have q3 : w7.cell? ⟨wr.heap.size, 3, none⟩ = some (.int .i64 v.n3) := (Row.cell HR7.out 3).trans rfl
          have q4 : w7.cell? ⟨wr.heap.size, 4, none⟩ = some (.int .i64 v.cnt) := (Row.cell HR7.out 4).trans rfl
          have q5 : w7.cell? ⟨wr.heap.size, 5, none⟩ = some (.string v.tag) := (Row.cell HR7.out 5).trans rfl
          go_wp2_with fail
          clear q0 q1 q2 q3 q4 q5
          refine htx.mono ?_
          rintro e w8 ⟨rfl, hb8⟩
          have h8 := SoT.next HS7.out hb8
          have hlow := h8.low
          have h9 := h8.next ((Below.refl _ _).alloc (Nat.le_refl _) (.cells #[.string t] 9))
          have HS9 : Hid (SoT w5 (w8.alloc (.cells #[.string t] 9)) vs j u9) := h9
          clear htx hb8 h8 h9 hrg hw7'
          go_wp2_with (at_builtin; refine wpList_ap_one rfl (some 56) rfl _ _ rfl w5.heap.size u9 j ((vs.take j).map fun v => Value.string (tx (textV v))) rfl t rfl w8.heap.size rfl (SoT.own HS9.out) rfl hlow (by omega) ?_; intro va wa hoa hga)
          have HSa : Hid (SoT w5 wa vs (j + 1) va) := SoT.more HS9.out hjv (by rw [HVx.out, HTt.out]; exact hoa) hga
          clear hoa hga
          go_roundw
          case rel => exact ⟨j + 1, by omega, by go_num, HSa.out⟩
          case measure => simp [intOf]; omega
        · have hjl' : ¬ (j : Int) < (m : Int) := by omega
          have hjm : vs.take j = vs := List.take_of_length_le (by have := HMl.out; omega)
          have hown := SoT.own HSt.out
          rw [hjm] at hown
          have hRx := HR5.out
          have hBx := SoT.bel HSt.out
          obtain ⟨ra, rg, rcap, hr1, hr2, hr3, hr4⟩ : ∃ (ra : Option Addr) (rg rcap : Nat), u4 = .slice ra (restOf L).length rcap ∧ (0 < (restOf L).length → ra = some ⟨rg, 0, none⟩) ∧ (ra = none → (restOf L).length = 0 ∧ rcap = 0) ∧ ∀ t u, ((restOf L).map Value.string)[t]? = some u → wr.cell? ⟨rg, 0 + t, none⟩ = some u := by
            have hRy := hRx
            obtain ⟨hxl, ⟨rfl, h0⟩ | ⟨g, cap, cur, rfl, _, hrow, _, _, _, _⟩⟩ := hRx
            · refine ⟨none, 0, 0, by rw [h0], fun h => absurd h (by omega), fun _ => ⟨h0, rfl⟩, fun t u ht => ?_⟩
              have := (List.getElem?_eq_some_iff.1 ht).1
              rw [List.length_map] at this
              omega
            · refine ⟨_, g, cap, rfl, fun _ => rfl, (fun h => by cases h), fun t u ht => ?_⟩
              have htl := (List.getElem?_eq_some_iff.1 ht).1
              rw [List.length_map] at htl
              have hgl : g < w5.heap.size := (Array.getElem?_eq_some_iff.1 hrow).1
              rw [Nat.zero_add]
              exact (hBx.cell (p := ⟨g, t, none⟩) hgl).trans ((hRy.cellAt t (by omega)).trans ht)
          subst hr1
          have HOW : Hid (wr.ownsRow w5.heap.size 9 1 u9 j (vs.map fun v => Value.string (tx (textV v)))) := hown
          have hlowr := SoT.low HSt.out
          have HBw : Hid (Below w.heap.size w wr) := HB5.out.trans (hBx.mono HB5.out.size)
          have hb5s := HB5.out.size
          have HFIN : Hid (∀ v' w', w'.ownsRow w5.heap.size 9 1 v' (j + (restOf L).length) ((vs.map fun v => Value.string (tx (textV v))) ++ (restOf L).map Value.string) → wr.grownBy w' u9.ownBlock → SortPost L w (.returned v') w') := fun v' w' h1 h2 => by
            refine ⟨vs, v', rfl, HPM.out, HFA.out, ?_, HBw.out.trans ((below_own h2 hlowr (fun q hq => ((World.ownsRow.lt HOW.out) q hq).1)).mono hb5s)⟩
            have e1 : j + (restOf L).length = L.length := by have := HN.out; have := HMl.out; omega
            rw [e1] at h1
            rw [List.map_append, List.map_map]
            exact World.ownsRow.mono h1 hb5s
          obtain ⟨RP, hRP⟩ : ∃ RP, RP = SortPost L w := ⟨_, rfl⟩
          have HF2 : Hid (∀ v' w', w'.ownsRow w5.heap.size 9 1 v' (j + (restOf L).length) ((vs.map fun v => Value.string (tx (textV v))) ++ (restOf L).map Value.string) → wr.grownBy w' u9.ownBlock → SortPost L w (.returned v') w') := HFIN.out
          have hbyt : (j + (restOf L).length) * 16 ≤ 140737488355328 := by omega
          clear hown hRx hBx hjm hRP
          go_wp2_with (at_builtin; refine wpList_ap_all rfl (some 60) rfl _ _ rfl w5.heap.size u9 j (vs.map fun v => Value.string (tx (textV v))) rfl HOW.out ra rg rcap (restOf L) rfl hr2 hr3 hr4 hlowr hbyt ?_; intro v' w' h1 h2; have HFF : Hid _ := HF2.out v' w' h1 h2; clear h1 h2)
          go_ret
          exact HFF.out
end Go.Proofs.YtkbhckjpmgkgjaaGreatDoor
namespace Go.Proofs.YtkbhckjpmgkgjaaGreatDoor
open Go.RowKit

/-- The texts that Sort tells. -/
def sortedT (vs : List Ver) (L : List ByteArray) : List ByteArray := vs.map (fun v => tx (textV v)) ++ restOf L
theorem text_of {s : ByteArray} {v : Ver} (h : parseV (vb s) = some v) : tx (textV v) = s := by rw [(parse_back h).2, tx_vb]
theorem vers_texts (L : List ByteArray) : ((versOf L).map (fun v => tx (textV v)) ++ restOf L).Perm L := by
  unfold versOf restOf
  induction L with
  | nil => exact List.Perm.refl _
  | cons s L ih =>
    cases h : parseV (vb s) with
    | none =>
      simp only [List.filterMap_cons, h, List.filter_cons, Option.isNone_none, if_true]
      exact (List.perm_middle).trans (List.Perm.cons s ih)
    | some v =>
      simp only [List.filterMap_cons, h, List.filter_cons, Option.isNone_some, List.map_cons, List.cons_append, text_of h]
      simpa using ih
/-- All that there was. -/
theorem sorted_perm {vs : List Ver} {L : List ByteArray} (h : vs.Perm (versOf L)) : (sortedT vs L).Perm L := by
  unfold sortedT
  exact ((h.map _).append_right _).trans (vers_texts L)
theorem parse_vers {L : List ByteArray} {v : Ver} (h : v ∈ versOf L) : parseV (textV v) = some v := parse_text ((mayV_iff v).1 (vers_may h))
theorem parse_rest_none {L : List ByteArray} {s : ByteArray} (h : s ∈ restOf L) : parseV (vb s) = none := by
  unfold restOf at h
  have := (List.mem_filter.1 h).2
  simpa using this
/-- What is a version's text among them. -/
theorem sorted_parse {vs : List Ver} {L : List ByteArray} (h : vs.Perm (versOf L)) (i : Nat) (hi : i < (sortedT vs L).length) : parseV (vb ((sortedT vs L)[i])) = vs[i]? := by
  unfold sortedT at hi ⊢
  by_cases hv : i < vs.length
  · rw [List.getElem_append_left (by rw [List.length_map]; exact hv), List.getElem_map, vb_tx, List.getElem?_eq_getElem hv]
    exact parse_vers (h.mem_iff.1 (List.getElem_mem hv))
  · rw [List.getElem_append_right (by rw [List.length_map]; omega), List.getElem?_eq_none (by omega)]
    exact parse_rest_none (List.getElem_mem _)
/-- Two that fall and have the same are one. -/
theorem falls_one {a b : List Ver} (h : a.Perm b) (ha : Falls a) (hb : Falls b) : a = b :=
  List.Perm.eq_of_pairwise (le := fun x y => 0 ≤ cmpV x y) (fun x y _ _ h1 h2 => by
    have := preV.anti x y
    exact (cmpV_zero x y).1 (by omega)) ha hb h
theorem filterMap_back {α β : Type} (f : α → β) (g : β → Option α) (l : List α) (h : ∀ x ∈ l, g (f x) = some x) : (l.map f).filterMap g = l := by
  induction l with
  | nil => rfl
  | cons x l ih =>
    rw [List.map_cons, List.filterMap_cons, h x (List.mem_cons_self ..)]
    show x :: _ = x :: l
    rw [ih (fun y hy => h y (List.mem_cons_of_mem _ hy))]
theorem versOf_sorted {vs : List Ver} {L : List ByteArray} (h : vs.Perm (versOf L)) : versOf (sortedT vs L) = vs := by
  unfold versOf sortedT
  rw [List.filterMap_append]
  have e1 : (vs.map fun v => tx (textV v)).filterMap (fun s => parseV (vb s)) = vs := filterMap_back _ _ vs fun v hv => by
    rw [vb_tx]
    exact parse_vers (h.mem_iff.1 hv)
  have e2 : (restOf L).filterMap (fun s => parseV (vb s)) = [] := by
    rw [List.filterMap_eq_nil_iff]
    exact fun s hs => parse_rest_none hs
  rw [e1, e2, List.append_nil]
theorem restOf_sorted {vs : List Ver} {L : List ByteArray} (h : vs.Perm (versOf L)) : restOf (sortedT vs L) = restOf L := by
  have e1 : (vs.map fun v => tx (textV v)).filter (fun s => (parseV (vb s)).isNone) = [] := by
    rw [List.filter_eq_nil_iff]
    intro s hs
    obtain ⟨v, hv, rfl⟩ := List.mem_map.1 hs
    rw [vb_tx, parse_vers (h.mem_iff.1 hv)]
    simp
  have e2 : (restOf L).filter (fun s => (parseV (vb s)).isNone) = restOf L := by
    rw [List.filter_eq_self]
    intro s hs
    rw [parse_rest_none hs]
    rfl
  unfold sortedT
  show List.filter _ _ = _
  rw [List.filter_append, e1, e2, List.nil_append]
/-- Sorted once. -/
theorem sorted_once {vs us : List Ver} {L : List ByteArray} (h : vs.Perm (versOf L)) (hf : Falls vs) (hu : us.Perm (versOf (sortedT vs L))) (huf : Falls us) : sortedT us (sortedT vs L) = sortedT vs L := by
  rw [versOf_sorted h] at hu
  have e := falls_one hu huf hf
  subst e
  show us.map _ ++ restOf (sortedT us L) = us.map _ ++ restOf L
  rw [restOf_sorted h]
end Go.Proofs.YtkbhckjpmgkgjaaGreatDoor
namespace Go.Proofs.YtkbhckjpmgkgjaaGreatDoor
open Go.RowKit

theorem pack_cell {w : World} {g o : Nat} {p : Pak} {nv : Value} (h : w.rangeAt g o (encP p nv)) : w.cell? ⟨g, o + 0, none⟩ = some (.string p.nm) ∧ w.cell? ⟨g, o + 1, none⟩ = some (.string p.vr) ∧ w.cell? ⟨g, o + 2, none⟩ = some nv := ⟨h 0 _ rfl, h 1 _ rfl, h 2 _ rfl⟩
set_option maxRecDepth 20000 in
set_option maxHeartbeats 4000000 in
theorem few_ok {L : List Pak} {pv : Value} (w : World) (hL : PacksIn w pv L) (hl : L.length ≤ 140737488355328) (hnd : ∀ p ∈ L, p.nd.length ≤ 140737488355328) : Calls Tryz.prog 11 #[pv] w fun e w' => ∃ b : Bool, e = .returned (.bool b) ∧ (b = true → L.length < 300 ∧ ∀ p ∈ L, p.nd.length < 300) ∧ w' = w := by
  obtain ⟨a, g, off, c, rfl, h2, h3, h4, h5⟩ := hL.ex
  have HA1 : Hid (0 < L.length → a = some ⟨g, off, none⟩) := fun h => (h3 h).1
  have HA5 : Hid (∀ i (h : i < L.length), ∃ na nc, w.cell? ⟨g, off + i * 3 + 2, none⟩ = some (.slice na L[i].nd.length nc)) := fun i hi => by
    obtain ⟨nv, k1, k2⟩ := h5 i hi
    obtain ⟨na, _, _, nc, rfl, _⟩ := k2.ex
    exact ⟨na, nc, (pack_cell k1).2.2⟩
  have HND : Hid (∀ p ∈ L, p.nd.length ≤ 140737488355328) := hnd
  obtain ⟨RP, hRP⟩ : ∃ RP : Ending → World → Prop, RP = fun e w' => ∃ b : Bool, e = .returned (.bool b) ∧ (b = true → L.length < 300 ∧ ∀ p ∈ L, p.nd.length < 300) ∧ w' = w := ⟨_, rfl⟩
  have HRP : Hid (∀ b : Bool, (b = true → L.length < 300 ∧ ∀ p ∈ L, p.nd.length < 300) → RP (.returned (.bool b)) w) := fun b h => by rw [hRP]; exact ⟨b, rfl, h, rfl⟩
  rw [← hRP]
  clear hRP
  obtain ⟨n, hn⟩ : ∃ n, n = L.length := ⟨_, rfl⟩
  have HN : Hid (n = L.length) := hn
  have hnn : L.length = n := hn.symm
  rw [hnn]
  rw [hnn] at h2 hl
  clear hL h3 h4 h5 hn hnn hnd
  go_enter Tryz.func11, Tryz.ntmps11
  go_wp2
  go_loop [3, 4] (fun sv iv => ∃ s i : Nat, i ≤ n ∧ sv = .int .i64 s ∧ iv = .int .i64 i ∧ s ≤ 140737488356000 ∧ n ≤ s ∧ Hid (∀ j (h : j < L.length), j < i → L[j].nd.length ≤ s)) (fun _ iv => n - (intOf iv).toNat)
  case atStart => exact ⟨n, 0, Nat.zero_le _, rfl, rfl, by omega, Nat.le_refl _, fun j _ h => absurd h (by omega)⟩
  case round =>
    obtain ⟨s, i, hi, rfl, rfl, hs1, hs2, HS⟩ := hrel
    by_cases hlt : i < n
    · have hlt' : (i : Int) < (n : Int) := by omega
      by_cases h300 : s < 300
      · have h300' : (s : Int) < 300 := by omega
        have hiL : i < L.length := by have := HN.out; omega
        obtain rfl := HA1.out (by omega)
        obtain ⟨na, nc, hcell⟩ := HA5.out i hiL
        have hle := HND.out _ (List.getElem_mem hiL)
        obtain ⟨nl, hnl⟩ : ∃ nl, nl = L[i].nd.length := ⟨_, rfl⟩
        rw [← hnl] at hcell hle
        have HN2 : Hid (∀ j (h : j < L.length), j < i + 1 → L[j].nd.length ≤ s + nl) := fun j hj h => by
          by_cases e : j = i
          · subst e; rw [hnl]; omega
          · have := HS.out j hj (by omega); omega
        clear hnl
        go_wp2
        go_round
        case rel => exact ⟨s + nl, i + 1, by omega, by go_num, by go_num, by omega, by omega, HN2.out⟩
        case measure => simp [intOf]; omega
      · have h300' : ¬ (s : Int) < 300 := by omega
        go_wp2
        exact HRP.out false fun h => absurd h (by decide)
    · have hlt' : ¬ (i : Int) < (n : Int) := by omega
      by_cases h300 : s < 300
      · have h300' : (s : Int) < 300 := by omega
        have HE : Hid (L.length < 300 ∧ ∀ p ∈ L, p.nd.length < 300) := ⟨by have := HN.out; omega, fun p hp => by
          obtain ⟨j, hj, rfl⟩ := List.getElem_of_mem hp
          have := HS.out j hj (by have := HN.out; omega)
          omega⟩
        go_wp2
        exact HRP.out true fun _ => HE.out
      · have h300' : ¬ (s : Int) < 300 := by omega
        go_wp2
        exact HRP.out false fun h => absurd h (by decide)
/-- The versions' texts of a name. -/
def verOf (L : List Pak) (nm : ByteArray) : List ByteArray := L.filterMap fun p => if p.nm = nm then some p.vr else none
theorem verOf_snoc (L : List Pak) (p : Pak) (nm : ByteArray) : verOf (L ++ [p]) nm = verOf L nm ++ if p.nm = nm then [p.vr] else [] := by
  unfold verOf
  rw [List.filterMap_append]
  congr 1
  by_cases h : p.nm = nm
  · simp [h]
  · simp [h]
theorem verOf_len (L : List Pak) (nm : ByteArray) : (verOf L nm).length ≤ L.length := List.length_filterMap_le _ _
/-- What holds while the texts of a name are gathered. -/
structure VfR (w wr : World) (L : List Pak) (nm : ByteArray) (i : Nat) (tv : Value) : Prop where
  own : wr.ownsRow w.heap.size 9 1 tv (verOf (L.take i) nm).length ((verOf (L.take i) nm).map Value.string)
  old : Below w.heap.size w wr
set_option maxRecDepth 20000 in
set_option maxHeartbeats 4000000 in
theorem versions_ok {L : List Pak} {pv : Value} (nm : ByteArray) (w : World) (hL : PacksIn w pv L) (hl : L.length ≤ 1000) (hF : FitP L) (hT : Pw w) : Calls Tryz.prog 16 #[pv, .string nm] w fun e w' => ∃ a c, e = .returned (.slice a (verOf L nm).length c) ∧ Below w.heap.size w w' := by
  obtain ⟨a, g, off, c, rfl, h2, h3, h4, h5⟩ := hL.ex
  have HA1 : Hid (0 < L.length → a = some ⟨g, off, none⟩) := fun h => (h3 h).1
  have HA5 : Hid (∀ wx, Below w.heap.size w wx → ∀ i (h : i < L.length), ∃ na nl nc, wx.rangeAt g (off + i * 3) (encP L[i] (.slice na nl nc))) := fun wx hx i hi => by
    obtain ⟨nv, k1, k2⟩ := h5 i hi
    obtain ⟨na, _, _, nc, rfl, _⟩ := k2.ex
    exact ⟨na, _, nc, fun j u hj => (hx.cell (p := ⟨g, off + i * 3 + j, none⟩) (h3 (by omega)).2).trans (k1 j u hj)⟩
  obtain ⟨ql, hql⟩ : ∃ q, q = (verOf L nm).length := ⟨_, rfl⟩
  have HQL : Hid (ql = (verOf L nm).length) := hql
  rw [← hql]
  clear hql
  have HT : Hid (Pw w) := hT
  have HFt : Hid (FitP L) := hF
  obtain ⟨n, hn⟩ : ∃ n, n = L.length := ⟨_, rfl⟩
  have HN : Hid (n = L.length) := hn
  have hnn : L.length = n := hn.symm
  rw [hnn]
  rw [hnn] at h2 hl
  have H0 : Hid (VfR w w L nm 0 (.slice none 0 0)) := ⟨World.ownsRow_nil _ _ _ _, Below.refl _ _⟩
  clear hL h3 h4 h5 hn hnn hT hF
  go_enter Tryz.func16, Tryz.ntmps16
  go_wp2
  go_loopw [5, 10] (fun tv iv wr => ∃ i : Nat, i ≤ n ∧ iv = .int .i64 i ∧ VfR w wr L nm i tv) (fun _ iv _ => n - (intOf iv).toNat)
  case atStart => exact ⟨0, Nat.zero_le _, rfl, H0.out⟩
  case round =>
    obtain ⟨i, hi, rfl, hR⟩ := hrel
    have HR : Hid (VfR w wr L nm i u5) := hR
    clear hR H0
    by_cases hlt : i < n
    · have hlt' : (i : Int) < (n : Int) := by omega
      have hiL : i < L.length := by have := HN.out; omega
      obtain rfl := HA1.out (by omega)
      obtain ⟨na, nl, nc, hrg⟩ := HA5.out wr (VfR.old HR.out) i hiL
      obtain ⟨p, hp⟩ : ∃ p, p = L[i] := ⟨_, rfl⟩
      rw [← hp] at hrg
      have hrg0 := hrg
      have HTk : Hid (verOf (L.take (i + 1)) nm = verOf (L.take i) nm ++ if p.nm = nm then [p.vr] else []) := by
        show _ = _
        rw [List.take_succ_eq_append_getElem hiL, verOf_snoc, hp]
      have hb3 : Below wr.heap.size wr (wr.alloc (.cells #[.string p.nm, .string p.vr, .slice na nl nc] 44)) := (Below.refl _ _).alloc (Nat.le_refl _) _
      have hr3 : Row (wr.alloc (.cells #[.string p.nm, .string p.vr, .slice na nl nc] 44)) wr.heap.size #[.string p.nm, .string p.vr, .slice na nl nc] 44 := Row.new _ _ _
      obtain ⟨w3, hw3⟩ : ∃ x, x = wr.alloc (.cells #[.string p.nm, .string p.vr, .slice na nl nc] 44) := ⟨_, rfl⟩
      rw [← hw3] at hb3 hr3
      have hw3' := hw3.symm
      obtain ⟨k5, hk5⟩ : ∃ k, k = wr.heap.size := ⟨_, rfl⟩
      have hk5' := hk5.symm
      rw [← hk5] at hr3
      have d0 : w3.cell? ⟨k5, 0, none⟩ = some (.string p.nm) := (hr3.cell 0).trans rfl
      have d1 : w3.cell? ⟨k5, 1, none⟩ = some (.string p.vr) := (hr3.cell 1).trans rfl
      have HB3 : Hid (Below wr.heap.size wr w3) := hb3
      have hlen : (verOf (L.take i) nm).length ≤ i := Nat.le_trans (verOf_len _ _) (List.length_take_le _ _)
      obtain ⟨q, hq⟩ : ∃ q, q = p.nm := ⟨_, rfl⟩
      rw [← hq] at hw3' d0 HTk
      clear hp hw3 hk5 hb3 hr3
      by_cases he : q = nm
      · have HT2 : Hid (verOf (L.take (i + 1)) nm = verOf (L.take i) nm ++ [p.vr]) := by show _ = _; rw [HTk.out, if_pos he]
        obtain ⟨t, ht⟩ : ∃ t, t = p.vr := ⟨_, rfl⟩
        rw [← ht] at hw3' d1 HT2
        have hown4 : (w3.alloc (.cells #[.string t] 9)).ownsRow w.heap.size 9 1 u5 (verOf (L.take i) nm).length ((verOf (L.take i) nm).map Value.string) := own_below (own_below (VfR.own HR.out) HB3.out) ((Below.refl _ _).alloc (Nat.le_refl _) _)
        have hlow : w.heap.size ≤ w3.heap.size := Nat.le_trans (VfR.old HR.out).size HB3.out.size
        have hrgq : wr.rangeAt g (off + i * 3) [.string q, .string t, .slice na nl nc] := by
          rw [hq, ht]
          exact hrg0
        subst he
        clear hq ht hrg hrg0
        go_wp2_with (first | refine wpList_load_mid rfl 44 _ rfl g (off + i * 3) rfl _ _ hrgq Tryz.underlying44 rfl infoPk ?_ | (refine wpList_store_new rfl 44 _ _ rfl wr zeroPk #[.string q, .string t, .slice na nl nc] 44 rfl wr.heap.size rfl rfl rfl infoPk rfl (pk_one _ _ _ _ _) ?_; rw [hw3']; rw [hk5']) | (at_builtin; refine wpList_ap_one rfl (some 22) rfl _ _ rfl w.heap.size u5 (verOf (L.take i) q).length ((verOf (L.take i) q).map Value.string) rfl t rfl w3.heap.size rfl hown4 rfl hlow (by omega) ?_; intro v5 w5 ho5 hg5))
        have hbx : Below wr.heap.size wr (w3.alloc (.cells #[.string t] 9)) := HB3.out.alloc HB3.out.size _
        have HR5 : Hid (VfR w w5 L q (i + 1) v5) := by
          refine ⟨by rw [HT2.out, List.length_append, List.map_append]; exact ho5, (VfR.old HR.out).trans ((hbx.mono (VfR.old HR.out).size).trans (below_own' hg5 (by simp; omega) fun k hk => (own_block hown4 k hk).1))⟩
        clear ho5 hg5 hown4 hbx
        go_roundw
        case rel => exact ⟨i + 1, by omega, by go_num, HR5.out⟩
        case measure => simp [intOf]; omega
      · have HT2 : Hid (verOf (L.take (i + 1)) nm = verOf (L.take i) nm) := by show _ = _; rw [HTk.out, if_neg he, List.append_nil]
        have hne1 : ¬ q.toList = nm.toList := fun e => he (list_eq.1 e)
        have hne2 : (q.toList == nm.toList) = false := by simpa using hne1
        have hrgq : wr.rangeAt g (off + i * 3) [.string q, .string p.vr, .slice na nl nc] := by
          rw [hq]
          exact hrg0
        have HR5 : Hid (VfR w w3 L nm (i + 1) u5) := ⟨by rw [HT2.out]; exact own_below (VfR.own HR.out) HB3.out, (VfR.old HR.out).trans (HB3.out.mono (VfR.old HR.out).size)⟩
        clear hq hrg hrg0 he
        go_wp2_with (first | refine wpList_load_mid rfl 44 _ rfl g (off + i * 3) rfl _ _ hrgq Tryz.underlying44 rfl infoPk ?_ | (refine wpList_store_new rfl 44 _ _ rfl wr zeroPk #[.string q, .string p.vr, .slice na nl nc] 44 rfl wr.heap.size rfl rfl rfl infoPk rfl (pk_one _ _ _ _ _) ?_; rw [hw3']; rw [hk5']))
        go_roundw
        case rel => exact ⟨i + 1, by omega, by go_num, HR5.out⟩
        case measure => simp [intOf]; omega
    · have hlt' : ¬ (i : Int) < (n : Int) := by omega
      have hti : L.take i = L := List.take_of_length_le (by have := HN.out; omega)
      have hown := VfR.own HR.out
      rw [hti] at hown
      have hvl := verOf_len L nm
      obtain ⟨V, hV⟩ : ∃ V, V = verOf L nm := ⟨_, rfl⟩
      rw [← hV] at hown hvl
      have HQV : Hid (ql = V.length) := by show _ = _; rw [HQL.out, hV]
      have hTx : ∃ a2 c2, u5 = .slice a2 V.length c2 ∧ TxAt wr a2 V c2 := by
        have heach : ∀ x ∈ V, x.size ≤ 140737488355328 := fun x hx => by
          rw [hV] at hx
          unfold verOf at hx
          obtain ⟨p, hp1, hp2⟩ := List.mem_filterMap.1 hx
          by_cases e : p.nm = nm
          · rw [if_pos e] at hp2
            cases hp2
            exact (HFt.out p hp1).2.1
          · rw [if_neg e] at hp2
            cases hp2
        have hown' := hown
        obtain ⟨hlen, ⟨rfl, h0⟩ | ⟨gg, cap, cur, rfl, k2, k3, k4, _⟩⟩ := hown
        · exact ⟨none, 0, by rw [h0], ⟨0, 0, fun h => absurd h (by omega), fun j hj => absurd hj (by omega)⟩, by omega, heach⟩
        · refine ⟨some ⟨gg, 0, none⟩, cap, rfl, ⟨gg, 0, fun _ => rfl, fun j hj => ?_⟩, by simpa using k4, heach⟩
          rw [Nat.zero_add, hown'.cellAt j (by simpa using hj), List.getElem?_map, List.getElem?_eq_getElem hj]
          rfl
      obtain ⟨a2, c2, rfl, hTx2⟩ := hTx
      have hso := sort_ok V a2 c2 wr hTx2 (by have := HN.out; omega) (Pw.keep HT.out (VfR.old HR.out) (Pw.lt HT.out))
      have HB : Hid (Below w.heap.size w wr) := VfR.old HR.out
      obtain ⟨vn, hvn⟩ : ∃ vn, vn = V.length := ⟨_, rfl⟩
      have hvn' : V.length = vn := hvn.symm
      rw [← hvn] at hso
      have HVn : Hid (vn = V.length) := hvn
      have HQn : Hid (ql = vn) := by show _ = _; rw [HQV.out, hvn]
      clear hown hti hV hTx2 hvn hvl
      go_wp2_with fail
      refine hso.mono ?_
      rintro e w6 ⟨vs, rv, rfl, _, _, hown6, hb6⟩
      obtain ⟨a3, c3, rfl⟩ : ∃ a3 c3, rv = .slice a3 vn c3 := by
        obtain ⟨_, ⟨rfl, h0⟩ | ⟨gg, cap, cur, rfl, _⟩⟩ := hown6
        · exact ⟨none, 0, by rw [HVn.out, h0]⟩
        · exact ⟨_, cap, by rw [HVn.out]⟩
      have HB6 : Hid (Below w.heap.size w w6) := HB.out.trans (hb6.mono HB.out.size)
      clear hso hown6 hb6
      go_wp2
      go_ret
      exact ⟨a3, c3, by rw [HQn.out]; rfl, HB6.out⟩
end Go.Proofs.YtkbhckjpmgkgjaaGreatDoor
namespace Go.Proofs.YtkbhckjpmgkgjaaGreatDoor
open Go.RowKit

theorem infoPkz : (Tryz.prog.info? 44).map (fun i => (i.zero, i.size, i.bytes)) = some (some (.agg zeroPk), 3, 56) := by kernel_rfl
theorem infoNdz : (Tryz.prog.info? 61).map (fun i => (i.zero, i.size, i.bytes)) = some (some (.agg zeroNd), 2, 32) := by kernel_rfl
def flatN (L : List Ned) : List Value := (L.map encN).flatten
theorem flatN_len (L : List Ned) : (flatN L).length = L.length * 2 := by
  induction L with
  | nil => rfl
  | cons v L ih =>
    show (encN v ++ flatN L).length = (L.length + 1) * 2
    rw [List.length_append, ih, show (encN v).length = 2 from rfl]
    omega
theorem flatN_at : ∀ (L : List Ned) (i : Nat) (hi : i < L.length) (j : Nat), j < 2 → (flatN L)[i * 2 + j]? = (encN L[i])[j]? := by
  intro L
  induction L with
  | nil => exact fun i hi => absurd hi (by simp)
  | cons c r ih =>
    intro i hi j hj
    have h2 : (encN c).length = 2 := rfl
    show (encN c ++ flatN r)[i * 2 + j]? = _
    cases i with
    | zero => rw [Nat.zero_mul, Nat.zero_add, List.getElem?_append_left (by rw [h2]; exact hj)]; rfl
    | succ i =>
      rw [List.getElem?_append_right (by rw [h2]; omega), h2, show (i + 1) * 2 + j - 2 = i * 2 + j by omega]
      exact ih i (by simpa using hi) j hj
theorem flatN_app (A B : List Ned) : flatN (A ++ B) = flatN A ++ flatN B := by
  unfold flatN
  rw [List.map_append, List.flatten_append]
abbrev PV := Pak × Value
def flatD (D : List PV) : List Value := (D.map fun d => encP d.1 d.2).flatten
theorem flatD_len (D : List PV) : (flatD D).length = D.length * 3 := by
  induction D with
  | nil => rfl
  | cons v L ih =>
    show (encP v.1 v.2 ++ flatD L).length = (L.length + 1) * 3
    rw [List.length_append, ih, show (encP v.1 v.2).length = 3 from rfl]
    omega
theorem flatD_snoc (D : List PV) (d : PV) : flatD (D ++ [d]) = flatD D ++ encP d.1 d.2 := by
  unfold flatD
  rw [List.map_append, List.flatten_append]
  simp
theorem flatD_at : ∀ (D : List PV) (i : Nat) (hi : i < D.length) (j : Nat), j < 3 → (flatD D)[i * 3 + j]? = (encP D[i].1 D[i].2)[j]? := by
  intro D
  induction D with
  | nil => exact fun i hi => absurd hi (by simp)
  | cons c r ih =>
    intro i hi j hj
    have h3 : (encP c.1 c.2).length = 3 := rfl
    show (encP c.1 c.2 ++ flatD r)[i * 3 + j]? = _
    cases i with
    | zero => rw [Nat.zero_mul, Nat.zero_add, List.getElem?_append_left (by rw [h3]; exact hj)]; rfl
    | succ i =>
      rw [List.getElem?_append_right (by rw [h3]; omega), h3, show (i + 1) * 3 + j - 3 = i * 3 + j by omega]
      exact ih i (by simpa using hi) j hj
theorem needs_own {w : World} {B : Nat} {v : Value} {L : List Ned} (h : w.ownsRow B 61 2 v L.length (flatN L)) : NeedsIn w v L := by
  have h' := h
  obtain ⟨hl, ⟨rfl, h0⟩ | ⟨g, cap, cur, rfl, _, hr, hc, _⟩⟩ := h
  · exact ⟨none, 0, 0, 0, by rw [h0], by omega, fun h => absurd h (by omega), fun _ => rfl, fun i hi => absurd hi (by omega)⟩
  · refine ⟨some ⟨g, 0, none⟩, g, 0, cap, rfl, hc, fun _ => ⟨rfl, (Array.getElem?_eq_some_iff.1 hr).1⟩, (fun h => by cases h), fun i hi j u hj => ?_⟩
    have hj2 : j < 2 := (List.getElem?_eq_some_iff.1 hj).1
    rw [Nat.zero_add, h'.cellAt (i * 2 + j) (by omega), flatN_at L i hi j hj2]
    exact hj
theorem own_base {w : World} {B B' s n : Nat} {e : TypeId} {v : Value} {xs : List Value} (h : w.ownsRow B' e s v n xs) (hB : B ≤ B') : w.ownsRow B e s v n xs := by
  obtain ⟨h0, h1 | ⟨g, cap, cur, rfl, hb, r⟩⟩ := h
  · exact ⟨h0, Or.inl h1⟩
  · exact ⟨h0, Or.inr ⟨g, cap, cur, rfl, Nat.le_trans hB hb, r⟩⟩
/-- Packages in memory of their own: what they are, and where their needs lie. -/
structure OwR (w wr : World) (D : List PV) (ov : Value) : Prop where
  own : wr.ownsRow w.heap.size 44 3 ov D.length (flatD D)
  nds : ∀ d ∈ D, wr.ownsRow w.heap.size 61 2 d.2 d.1.nd.length (flatN d.1.nd)
  sep : D.Pairwise fun d e => ∀ a b, d.2.ownBlock = some a → e.2.ownBlock = some b → a ≠ b
  old : Below w.heap.size w wr
theorem OwR.next {w wr w' : World} {D : List PV} {ov : Value} (h : OwR w wr D ov) (hb : Below wr.heap.size wr w') : OwR w w' D ov :=
  ⟨own_below h.own hb, fun d hd => own_below (h.nds d hd) hb, h.sep, h.old.trans (hb.mono h.old.size)⟩
theorem OwR.packs {w wr : World} {D : List PV} {ov : Value} (h : OwR w wr D ov) : PacksIn wr ov (D.map (·.1)) := by
  have h' := h.own
  have hl : (D.map (·.1)).length = D.length := List.length_map _
  obtain ⟨_, ⟨rfl, h0⟩ | ⟨g, cap, cur, rfl, _, hr, hc, _⟩⟩ := h.own
  · exact ⟨none, 0, 0, 0, by rw [hl, h0], by omega, fun h => absurd h (by omega), fun _ => rfl, fun i hi => absurd hi (by omega)⟩
  · refine ⟨some ⟨g, 0, none⟩, g, 0, cap, by rw [hl], by rw [hl]; exact hc, fun _ => ⟨rfl, (Array.getElem?_eq_some_iff.1 hr).1⟩, (fun h => by cases h), fun i hi => ?_⟩
    have hiD : i < D.length := by rw [hl] at hi; exact hi
    refine ⟨D[i].2, fun j u hj => ?_, ?_⟩
    · have hj3 : j < 3 := (List.getElem?_eq_some_iff.1 hj).1
      rw [List.getElem_map] at hj
      rw [Nat.zero_add, h'.cellAt (i * 3 + j) (by omega), flatD_at D i hiD j hj3]
      exact hj
    · rw [List.getElem_map]
      exact needs_own (h.nds _ (List.getElem_mem hiD))
/-- One package more. -/
theorem OwR.more {w w8 w9 : World} {D : List PV} {ov ov' : Value} {p : Pak} {nv : Value} (h : OwR w w8 D ov) (hn : w8.ownsRow w.heap.size 61 2 nv p.nd.length (flatN p.nd)) (hsep : ∀ d ∈ D, ∀ a b, d.2.ownBlock = some a → nv.ownBlock = some b → a ≠ b) (ho : w9.ownsRow w.heap.size 44 3 ov' (D.length + 1) (flatD D ++ encP p nv)) (hg : w8.grownBy w9 ov.ownBlock) : OwR w w9 (D ++ [(p, nv)]) ov' := by
  have hrow := ownsRow_row h.own
  have keep : ∀ {v : Value} {n : Nat} {xs : List Value}, w8.ownsRow w.heap.size 61 2 v n xs → w9.ownsRow w.heap.size 61 2 v n xs := fun {v n xs} hv => own_same hv fun k hk => hg.block k (own_block hv k hk).2 fun e => by
    obtain ⟨C, hC⟩ := ownsRow_row hv k hk
    obtain ⟨E, hE⟩ := hrow k e.symm
    rw [hC] at hE
    simp at hE
  refine ⟨by rw [List.length_append, flatD_snoc]; exact ho, fun d hd => ?_, ?_, h.old.trans (below_own' hg h.old.size fun k hk => (own_block h.own k hk).1)⟩
  · rcases List.mem_append.1 hd with hd | hd
    · exact keep (h.nds d hd)
    · rw [List.mem_singleton.1 hd]; exact keep hn
  · rw [List.pairwise_append]
    refine ⟨h.sep, List.pairwise_singleton _ _, fun d hd e he => ?_⟩
    rw [List.mem_singleton.1 he]
    exact hsep d hd
theorem one_pk (nm vr : ByteArray) (na : Option Addr) (nl nc : Nat) (w : World) : (Instr.buildSlice 22 1 #[(0, .agg #[.string nm, .string vr, .slice na nl nc])]).run Tryz.prog w = .ok (.slice (some ⟨w.heap.size, 0, none⟩) 1 1) (w.alloc (.cells #[.string nm, .string vr, .slice na nl nc] 44)) := by
  obtain ⟨i0, hi, hz0, hz1, _⟩ := info_parts infoPkz
  refine run_buildSlice w 22 44 1 _ _ i0 _ Tryz.underlying22 hi hz0 (by rw [hz1]; decide) (by rw [hz1]; decide) ?_
  rw [hz1]
  kernel_rfl
theorem own_zero (w : World) : (w.alloc (.cells #[] 61)).ownsRow w.heap.size 61 2 (.slice (some ⟨w.heap.size, 0, none⟩) 0 0) 0 [] :=
  ⟨rfl, Or.inr ⟨w.heap.size, 0, #[], rfl, Nat.le_refl _, heap_alloc_new w _, Nat.le_refl _, by unfold maxLen; omega, rfl, rfl⟩⟩
theorem slice_of {w : World} {B n s : Nat} {e : TypeId} {v : Value} {xs : List Value} (h : w.ownsRow B e s v n xs) : ∃ a c, v = .slice a n c := by
  obtain ⟨_, ⟨rfl, h0⟩ | ⟨g, cap, cur, rfl, _⟩⟩ := h
  · exact ⟨none, 0, by rw [h0]⟩
  · exact ⟨_, cap, rfl⟩
set_option maxRecDepth 40000 in
set_option maxHeartbeats 8000000 in
theorem own_ok {L : List Pak} {pv : Value} (w : World) (hL : PacksIn w pv L) (hl : L.length ≤ 1000) (hnd : ∀ p ∈ L, p.nd.length ≤ 1000) : Calls Tryz.prog 13 #[pv] w fun e w' => ∃ (ov : Value) (D : List PV), e = .returned ov ∧ D.map (·.1) = L ∧ OwR w w' D ov := by
  obtain ⟨a, g, off, c, rfl, h2, h3, h4, h5⟩ := hL.ex
  have HA1 : Hid (0 < L.length → a = some ⟨g, off, none⟩) := fun h => (h3 h).1
  have HA5 : Hid (∀ i (h : i < L.length), ∃ na nc, (∀ wx, Below w.heap.size w wx → wx.rangeAt g (off + i * 3) (encP L[i] (.slice na L[i].nd.length nc))) ∧ ∀ wx, Below w.heap.size w wx → NeedsIn wx (.slice na L[i].nd.length nc) L[i].nd) := fun i hi => by
    obtain ⟨nv, k1, k2⟩ := h5 i hi
    have k2' := k2
    obtain ⟨na, _, _, nc, rfl, _⟩ := k2.ex
    exact ⟨na, nc, fun wx hx j u hj => (hx.cell (p := ⟨g, off + i * 3 + j, none⟩) (h3 (by omega)).2).trans (k1 j u hj), fun wx hx => k2'.keep (Nat.le_refl _) hx⟩
  have HND : Hid (∀ p ∈ L, p.nd.length ≤ 1000) := hnd
  obtain ⟨n, hn⟩ : ∃ n, n = L.length := ⟨_, rfl⟩
  have HN : Hid (n = L.length) := hn
  have hnn : L.length = n := hn.symm
  rw [hnn]
  rw [hnn] at h2 hl
  have H0 : Hid (OwR w w [] (.slice none 0 0)) := ⟨World.ownsRow_nil _ _ _ _, (fun d h => by cases h), List.Pairwise.nil, Below.refl _ _⟩
  obtain ⟨RP, hRP⟩ : ∃ RP : Ending → World → Prop, RP = fun e w' => ∃ (ov : Value) (D : List PV), e = .returned ov ∧ D.map (·.1) = L ∧ OwR w w' D ov := ⟨_, rfl⟩
  have HRP : Hid (∀ w' ov (D : List PV), D.map (·.1) = L → OwR w w' D ov → RP (.returned ov) w') := fun w' ov D h1 h2 => by rw [hRP]; exact ⟨ov, D, rfl, h1, h2⟩
  rw [← hRP]
  clear hL h3 h4 h5 hn hnn hnd hRP
  go_enter Tryz.func13, Tryz.ntmps13
  go_wp2
  go_loopw [3, 4] (fun ov iv wr => ∃ (i : Nat) (D : List PV), i ≤ n ∧ iv = .int .i64 i ∧ Hid (D.map (·.1) = L.take i) ∧ OwR w wr D ov) (fun _ iv _ => n - (intOf iv).toNat)
  case atStart => exact ⟨0, [], Nat.zero_le _, rfl, rfl, H0.out⟩
  case round =>
    obtain ⟨i, D, hi, rfl, HD, hR⟩ := hrel
    have HR : Hid (OwR w wr D u3) := hR
    clear hR H0
    by_cases hlt : i < n
    · have hlt' : (i : Int) < (n : Int) := by omega
      have hiL : i < L.length := by have := HN.out; omega
      have HDl : Hid (D.length = i) := by
        have h := congrArg List.length HD.out
        rw [List.length_map, List.length_take] at h
        show _ = _
        omega
      obtain rfl := HA1.out (by omega)
      obtain ⟨na, nc, hrg0, hnin0⟩ := HA5.out i hiL
      have hrg := hrg0 wr (OwR.old HR.out)
      obtain ⟨p, hp⟩ : ∃ p, p = L[i] := ⟨_, rfl⟩
      rw [← hp] at hrg hnin0
      have hpl := HND.out p (by rw [hp]; exact List.getElem_mem _)
      have HTk : Hid ((D ++ [(p, (Value.slice none 0 0))]).map (·.1) = L.take (i + 1)) := by
        show _ = _
        rw [List.map_append, HD.out, List.take_succ_eq_append_getElem hiL, hp]
        rfl
      obtain ⟨nl, hnl⟩ : ∃ nl, nl = p.nd.length := ⟨_, rfl⟩
      rw [← hnl] at hrg hnin0 hpl
      have HNl : Hid (nl = p.nd.length) := hnl
      have hb3 : Below wr.heap.size wr (wr.alloc (.cells #[.string p.nm, .string p.vr, .slice na nl nc] 44)) := (Below.refl _ _).alloc (Nat.le_refl _) _
      have hr3 : Row (wr.alloc (.cells #[.string p.nm, .string p.vr, .slice na nl nc] 44)) wr.heap.size #[.string p.nm, .string p.vr, .slice na nl nc] 44 := Row.new _ _ _
      obtain ⟨w3, hw3⟩ : ∃ x, x = wr.alloc (.cells #[.string p.nm, .string p.vr, .slice na nl nc] 44) := ⟨_, rfl⟩
      rw [← hw3] at hb3 hr3
      have hw3' := hw3.symm
      obtain ⟨k5, hk5⟩ : ∃ k, k = wr.heap.size := ⟨_, rfl⟩
      have hk5' := hk5.symm
      rw [← hk5] at hr3
      have HB3 : Hid (Below wr.heap.size wr w3) := hb3
      have hk53 : k5 < w3.heap.size := hr3.lt
      have hbz : Below w3.heap.size w3 (w3.alloc (.cells #[] 61)) := (Below.refl _ _).alloc (Nat.le_refl _) _
      have hrz : Row (w3.alloc (.cells #[] 61)) k5 #[.string p.nm, .string p.vr, .slice na nl nc] 44 := hr3.below hbz hr3.lt
      have hnz : NeedsIn (w3.alloc (.cells #[] 61)) (.slice na nl nc) p.nd := hnin0 _ ((OwR.old HR.out).trans ((HB3.out.trans (hbz.mono HB3.out.size)).mono (OwR.old HR.out).size))
      have hoz := own_zero w3
      obtain ⟨wz, hwz⟩ : ∃ x, x = w3.alloc (.cells #[] 61) := ⟨_, rfl⟩
      rw [← hwz] at hbz hrz hnz hoz
      have hwz' := hwz.symm
      have c2 : wz.cell? ⟨k5, 2, none⟩ = some (.slice na nl nc) := (hrz.cell 2).trans rfl
      have HBZ : Hid (Below w3.heap.size w3 wz) := hbz
      have HRZ : Hid (Row wz k5 #[.string p.nm, .string p.vr, .slice na nl nc] 44) := hrz
      have HOZ : Hid (wz.ownsRow w3.heap.size 61 2 (.slice (some ⟨w3.heap.size, 0, none⟩) 0 0) 0 []) := hoz
      obtain ⟨na2, b, boff, nc2, hne, hq1, hq2, hq3, hq4⟩ := hnz.ex
      simp only [Value.slice.injEq] at hne
      obtain ⟨rfl, -, rfl⟩ := hne
      have HQ2 : Hid (0 < nl → na = some ⟨b, boff, none⟩) := fun h => (hq2 (by have := HNl.out; omega)).1
      have HQ3 : Hid (na = none → nl = 0 ∧ nc = 0) := fun h => ⟨by have := hq3 h; have := HNl.out; omega, hq3 h⟩
      have HFl : Hid ((flatN p.nd).length = nl * 2) := by show _ = _; rw [flatN_len, ← HNl.out]
      have HCl : Hid (∀ j u, (flatN p.nd)[j]? = some u → wz.cell? ⟨b, boff + j, none⟩ = some u) := fun j u hj => by
        have hjl : j < (flatN p.nd).length := (List.getElem?_eq_some_iff.1 hj).1
        rw [flatN_len] at hjl
        have e : j = j / 2 * 2 + j % 2 := by omega
        have h6 := hq4 (j / 2) (by omega) (j % 2) u (by
          rw [← flatN_at p.nd (j / 2) (by omega) (j % 2) (by omega), ← e]
          exact hj)
        rw [show boff + j / 2 * 2 + j % 2 = boff + j by omega] at h6
        exact h6
      have HOne : Hid (∀ u ∈ flatN p.nd, u.oneCell' = true) := fun u hu => by
        unfold flatN at hu
        obtain ⟨l, hl1, hl2⟩ := List.mem_flatten.1 hu
        obtain ⟨x, _, rfl⟩ := List.mem_map.1 hl1
        simp at hl2
        rcases hl2 with rfl | rfl <;> rfl
      clear hp hnl hw3 hk5 hb3 hwz hbz hrz hnz hoz hq1 hq2 hq3 hq4 hnin0 hrg0 hr3
      go_upto_region 7 with (first | refine wpList_load_mid rfl 44 _ rfl g (off + i * 3) rfl _ _ hrg Tryz.underlying44 rfl infoPk ?_ | (refine wpList_store_new rfl 44 _ _ rfl wr zeroPk #[.string p.nm, .string p.vr, .slice na nl nc] 44 rfl wr.heap.size rfl rfl rfl infoPk rfl (pk_one _ _ _ _ _) ?_; rw [hw3']; rw [hk5']) | (at_builtin; refine wpList_plain rfl fun K' hK' => ?_; refine wp_append_any (some 19) rfl _ _ 42 61 (.agg zeroNd) 2 32 Tryz.underlying42 infoNdz rfl (by decide) rfl w3.heap.size (.slice (some ⟨w3.heap.size, 0, none⟩) 0 0) 0 [] rfl HOZ.out na b boff nl nc (flatN p.nd) HFl.out rfl HQ2.out HCl.out HOne.out HQ3.out (by unfold maxLen; omega) (by omega) HBZ.out.size ?_; intro v6 w6 ho6 hg6 _; refine hK' _ _ ?_; obtain ⟨ta, tc, hv6⟩ := slice_of ho6; have HO6 : Hid (w6.ownsRow w3.heap.size 61 2 v6 (0 + nl) ([] ++ flatN p.nd)) := ho6; have HB6 : Hid (Below w3.heap.size w3 w6) := HBZ.out.trans (below_own' hg6 HBZ.out.size fun k hk => (own_block HOZ.out k hk).1); have hr6 : Row w6 k5 #[.string p.nm, .string p.vr, .slice na nl nc] 44 := (hg6.block k5 HRZ.out.lt (fun e => by simp only [Value.ownBlock, Option.some.injEq] at e; omega)).trans HRZ.out; have HR6 : Hid (Row w6 k5 #[.string p.nm, .string p.vr, .slice na nl nc] 44) := hr6; have cz : w6.cell? ⟨k5, 2, none⟩ = some (.slice na nl nc) := (hr6.cell 2).trans rfl; have fz := hr6.frozen 2; rw [Nat.zero_add] at hv6; subst hv6; clear ho6 hg6 hr6))
      have HN6 : Hid (w6.ownsRow w3.heap.size 61 2 (.slice ta nl tc) nl (flatN p.nd)) := by
        have h := HO6.out
        rw [Nat.zero_add, List.nil_append] at h
        exact h
      have hr7 : Row (w6.setCell ⟨k5, 2, none⟩ (.slice ta nl tc)) k5 #[.string p.nm, .string p.vr, .slice ta nl tc] 44 := HR6.out.setCell (i := 2) (.slice ta nl tc)
      have hb7 : Below wr.heap.size wr (w6.setCell ⟨k5, 2, none⟩ (.slice ta nl tc)) := (HB3.out.trans (HB6.out.mono HB3.out.size)).trans (below_set (by rw [hk5']; exact Nat.le_refl _) _ _)
      have hn7 : (w6.setCell ⟨k5, 2, none⟩ (.slice ta nl tc)).ownsRow w3.heap.size 61 2 (.slice ta nl tc) nl (flatN p.nd) := own_same HN6.out fun j hj => Below.heap_setCell _ _ _ _ (by have := (own_block HN6.out j hj).1; show j ≠ k5; omega)
      obtain ⟨w7, hw7⟩ : ∃ x, x = w6.setCell ⟨k5, 2, none⟩ (.slice ta nl tc) := ⟨_, rfl⟩
      rw [← hw7] at hr7 hb7 hn7
      rw [← hw7]
      have HB7 : Hid (Below wr.heap.size wr w7) := hb7
      have HN7 : Hid (w7.ownsRow w3.heap.size 61 2 (.slice ta nl tc) nl (flatN p.nd)) := hn7
      have hone := one_pk p.nm p.vr ta nl tc w7
      have HR7 : Hid (OwR w w7 D u3) := OwR.next HR.out HB7.out
      have hba : Below w7.heap.size w7 (w7.alloc (.cells #[.string p.nm, .string p.vr, .slice ta nl tc] 44)) := (Below.refl _ _).alloc (Nat.le_refl _) _
      have HBa : Hid (Below w7.heap.size w7 (w7.alloc (.cells #[.string p.nm, .string p.vr, .slice ta nl tc] 44))) := hba
      have HRa : Hid (OwR w (w7.alloc (.cells #[.string p.nm, .string p.vr, .slice ta nl tc] 44)) D u3) := OwR.next HR7.out hba
      have hlow7 : w.heap.size ≤ w7.heap.size := (OwR.old HR7.out).size
      have hDl : D.length ≤ 1000 := by have := HDl.out; omega
      clear hw7 hb7 hn7 hba cz fz c2 hwz' hw3' hk53 hrg
      go_wp2_with (first | refine wpList_load_row rfl 44 _ rfl k5 rfl 44 #[.string p.nm, .string p.vr, .slice ta nl tc] (0, 0) _ hr7 Tryz.underlying44 rfl infoPk ?_ | (at_builtin; refine wpList_plain rfl fun K' hK' => ?_; refine wp_append_any (some 24) rfl _ _ 22 44 (.agg zeroPk) 3 56 Tryz.underlying22 infoPkz rfl (by decide) rfl w.heap.size u3 D.length (flatD D) rfl (OwR.own HRa.out) (some ⟨w7.heap.size, 0, none⟩) w7.heap.size 0 1 1 (encP p (.slice ta nl tc)) rfl rfl (fun _ => rfl) (fun j u hj => by rw [Nat.zero_add, (Row.new w7 #[.string p.nm, .string p.vr, .slice ta nl tc] 44).cell j, ← hj]; exact List.getElem?_toArray) (fun u hu => by simp at hu; rcases hu with rfl | rfl | rfl <;> rfl) (fun h => nomatch h) (by unfold maxLen; omega) (by omega) (by simp; omega) ?_; intro v9 w9 ho9 hg9 _; refine hK' _ _ ?_))
      have hsep : ∀ d ∈ D, ∀ x y, d.2.ownBlock = some x → (Value.slice ta nl tc).ownBlock = some y → x ≠ y := fun d hd x y hx hy => by
        have h1 := (own_block (OwR.nds HR.out d hd) x hx).2
        have h2 := (own_block HN7.out y hy).1
        have h3 := HB3.out.size
        omega
      have hn8 : (w7.alloc (.cells #[.string p.nm, .string p.vr, .slice ta nl tc] 44)).ownsRow w.heap.size 61 2 (.slice ta nl tc) p.nd.length (flatN p.nd) := by
        rw [← HNl.out]
        exact own_below (own_base HN7.out (Nat.le_trans (OwR.old HR.out).size HB3.out.size)) HBa.out
      have HR9 : Hid (OwR w w9 (D ++ [(p, .slice ta nl tc)]) v9) := OwR.more HRa.out hn8 hsep ho9 hg9
      have HD9 : Hid ((D ++ [(p, Value.slice ta nl tc)]).map (·.1) = L.take (i + 1)) := by
        have h := HTk.out
        rw [List.map_append] at h ⊢
        exact h
      clear ho9 hg9 hsep hn8 hr7 hone
      go_roundw
      case rel => exact ⟨i + 1, D ++ [(p, .slice ta nl tc)], by omega, by go_num, HD9, HR9.out⟩
      case measure => simp [intOf]; omega
    · have hlt' : ¬ (i : Int) < (n : Int) := by omega
      have HE := HRP.out wr u3 D (by rw [HD.out, List.take_of_length_le (by have := HN.out; omega)]) HR.out
      have HEE : Hid (RP (.returned u3) wr) := HE
      clear HE
      go_wp2
      exact HEE.out
end Go.Proofs.YtkbhckjpmgkgjaaGreatDoor
namespace Go.Proofs.YtkbhckjpmgkgjaaGreatDoor
open Go.RowKit

/-- How many packages a name has. -/
def cntN (L : List Pak) (s : ByteArray) : Nat := (verOf L s).length
theorem cntN_cons (p : Pak) (L : List Pak) (s : ByteArray) : cntN (p :: L) s = (if p.nm = s then 1 else 0) + cntN L s := by
  unfold cntN verOf
  by_cases h : p.nm = s
  · simp [h, Nat.add_comm]
  · simp [h]
theorem sum_if {S : List ByteArray} (hn : S.Nodup) (x : ByteArray) (hx : x ∈ S) : (S.map fun s => if x = s then 1 else 0).sum = 1 := by
  induction S with
  | nil => cases hx
  | cons a S ih =>
    rw [List.map_cons, List.sum_cons]
    obtain ⟨h1, h2⟩ := List.nodup_cons.1 hn
    by_cases e : x = a
    · subst e
      rw [if_pos rfl]
      have : (S.map fun s => if x = s then 1 else 0) = S.map fun _ => 0 := List.map_congr_left fun s hs => if_neg fun e => h1 (by rw [e]; exact hs)
      rw [this]
      have h0 : ∀ (l : List ByteArray), (l.map fun _ => 0).sum = 0 := fun l => by induction l with | nil => rfl | cons _ _ ih => rw [List.map_cons, List.sum_cons, ih]
      rw [h0]
    · rw [if_neg e, ih h2 ((List.mem_cons.1 hx).resolve_left e)]
theorem sum_add (S : List ByteArray) (f g : ByteArray → Nat) : (S.map fun s => f s + g s).sum = (S.map f).sum + (S.map g).sum := by
  induction S with
  | nil => rfl
  | cons a S ih => rw [List.map_cons, List.sum_cons, ih, List.map_cons, List.sum_cons, List.map_cons, List.sum_cons]; omega
/-- Each package once. -/
theorem sum_cnt {S : List ByteArray} (hn : S.Nodup) : ∀ L : List Pak, (∀ p ∈ L, p.nm ∈ S) → (S.map (cntN L)).sum = L.length
  | [], _ => by
    have h0 : ∀ (l : List ByteArray), (l.map (cntN [])).sum = 0 := fun l => by induction l with | nil => rfl | cons _ _ ih => rw [List.map_cons, List.sum_cons, ih]; rfl
    rw [h0]
    rfl
  | p :: L, h => by
    have e : S.map (cntN (p :: L)) = S.map fun s => (if p.nm = s then 1 else 0) + cntN L s := List.map_congr_left fun s _ => cntN_cons p L s
    rw [e, sum_add, sum_if hn p.nm (h p List.mem_cons_self), sum_cnt hn L fun q hq => h q (List.mem_cons_of_mem _ hq), List.length_cons, Nat.add_comm]
theorem packs_mem : ∀ {L : List Pak} {A : List Rl}, packsE A L = 0 → ∀ p ∈ L, ∃ B, packE B p = 0 := by
  intro L
  induction L with
  | nil => intro A _ p hp; cases hp
  | cons q r ih =>
    intro A h p hp
    rw [packsE_cons] at h
    by_cases hq : packE A q ≠ 0
    · rw [if_pos hq] at h; exact absurd h hq
    · rw [if_neg hq] at h
      rcases List.mem_cons.1 hp with rfl | hp
      · exact ⟨A, Decidable.not_not.1 hq⟩
      · exact ih h p hp
theorem packE_parts {A : List Rl} {p : Pak} (h : packE A p = 0) : rightP p.nm p.vr A = 0 ∧ needsE [] p.nd = 0 := by
  unfold packE at h
  by_cases h1 : rightP p.nm p.vr A ≠ 0
  · rw [if_pos h1] at h; exact absurd h h1
  · rw [if_neg h1] at h; exact ⟨Decidable.not_not.1 h1, h⟩
/-- A package that is told twice is found out. -/
theorem twice_bad {L : List Pak} {p : Pak} (h : rightL L = 0) (hp : p ∈ L) (hl : L.length + 1 ≤ 1024) : rightL (L ++ [p]) = 13 := by
  obtain ⟨⟨_, g2⟩, g3⟩ := rightL_zero.1 h
  have hb : bigL (L ++ [p]) = false := (bigL_iff _).2 ⟨by rw [List.length_append]; exact hl, fun q hq => by
    rcases List.mem_append.1 hq with hq | hq
    · exact g2 q hq
    · rw [List.mem_singleton.1 hq]; exact g2 p hp⟩
  obtain ⟨B, hB⟩ := packs_mem g3 p hp
  obtain ⟨k1, ⟨x, k2⟩, _⟩ := rightP_ok (packE_parts hB).1
  have hr : rightP p.nm p.vr (([] : List Rl) ++ L.map Pak.key) = 13 := by
    unfold rightP
    rw [if_neg (by rw [k1]; decide), k2, if_neg (by simp), if_pos]
    exact List.mem_map.2 ⟨p, hp, rfl⟩
  unfold rightL
  rw [if_neg (by rw [hb]; decide), packsE_snoc, g3, if_neg (fun k => k rfl)]
  unfold packE
  rw [hr, if_pos (by decide)]
def noneN : Ned := ⟨⟨#[110, 111, 110, 101]⟩, ⟨#[42]⟩⟩
theorem alt_oneI {x : By} {L : List Cut} (h : (44 : UInt8) ∉ x) (ht : termS x = some L) : altS x = some L := by
  unfold altS gatherS
  have : splitB 44 16 x = [x] := by rw [splitB, cutAt_none h]
  rw [this, if_neg (by rw [List.length_singleton]; omega), gath1_cons, ht]
  rfl
theorem star_range : rangeS [42] = some allC := by
  have h1 : altS [42] = some allC := alt_oneI (by simp) rfl
  have hs : splitB 124 16 [42] = [[42]] := by rw [splitB, cutAt_none (by simp)]
  unfold rangeS gatherS
  rw [hs, if_neg (by decide), gath1_cons, h1]
  rfl
theorem none_twice {A : List Ned} (h : needsE [] A = 0) : needsE [] (A ++ [noneN, noneN]) = 13 := by
  have hn : nameI (vb noneN.nm) = true := by decide
  have hr : rangeS (vb noneN.rg) = some allC := star_range
  have e : A ++ [noneN, noneN] = (A ++ [noneN]) ++ [noneN] := by simp
  have h13 : ∀ B : List Ned, noneN.nm ∈ B.map Ned.nm → rightN noneN B = 13 := fun B hB => by
    unfold rightN
    rw [if_neg (by rw [hn]; decide), hr, if_neg (by simp), if_pos hB]
  have h1 : needsE [] (A ++ [noneN]) = rightN noneN A := by rw [needsE_snoc, h, if_neg (fun k => k rfl), List.nil_append]
  rw [e, needsE_snoc, h1, List.nil_append]
  by_cases hm : noneN.nm ∈ A.map Ned.nm
  · rw [h13 A hm, if_pos (by decide)]
  · have h0 : rightN noneN A = 0 := by
      unfold rightN
      rw [if_neg (by rw [hn]; decide), hr, if_neg (by simp), if_neg hm]
    rw [h0, if_neg (fun k => k rfl)]
    exact h13 _ (by simp)
/-- A need that is told twice is found out. -/
theorem again_bad {L : List Pak} {n : Nat} (h : rightL L = 0) (hn : n < L.length) (hl : L[n].nd.length + 2 ≤ 64) : rightL (L.set n ⟨L[n].nm, L[n].vr, L[n].nd ++ [noneN, noneN]⟩) = 13 := by
  obtain ⟨⟨g1, g2⟩, g3⟩ := rightL_zero.1 h
  have hb : bigL (L.set n ⟨L[n].nm, L[n].vr, L[n].nd ++ [noneN, noneN]⟩) = false := (bigL_iff _).2 ⟨by rw [List.length_set]; exact g1, fun q hq => by
    rcases List.mem_or_eq_of_mem_set hq with hq | rfl
    · exact g2 q hq
    · show (L[n].nd ++ [noneN, noneN]).length ≤ 64
      rw [List.length_append]
      exact hl⟩
  unfold rightL
  rw [if_neg (by rw [hb]; decide)]
  have key : ∀ (L : List Pak) (n : Nat) (hn : n < L.length) (A : List Rl), packsE A L = 0 → packsE A (L.set n ⟨L[n].nm, L[n].vr, L[n].nd ++ [noneN, noneN]⟩) = 13 := by
    intro L
    induction L with
    | nil => intro n hn; exact absurd hn (by simp)
    | cons p r ih =>
      intro n hn A hA
      rw [packsE_cons] at hA
      by_cases hp : packE A p ≠ 0
      · rw [if_pos hp] at hA; exact absurd hA hp
      · rw [if_neg hp] at hA
        cases n with
        | zero =>
          obtain ⟨k1, k2⟩ := packE_parts (Decidable.not_not.1 hp)
          show packsE A (⟨p.nm, p.vr, p.nd ++ [noneN, noneN]⟩ :: r) = 13
          have e : packE A ⟨p.nm, p.vr, p.nd ++ [noneN, noneN]⟩ = 13 := by
            unfold packE
            rw [if_neg (fun k => k k1)]
            exact none_twice k2
          rw [packsE_cons, e, if_pos (by decide)]
        | succ m =>
          show packsE A (p :: r.set m ⟨(r[m]'(by simpa using hn)).nm, (r[m]'(by simpa using hn)).vr, (r[m]'(by simpa using hn)).nd ++ [noneN, noneN]⟩) = 13
          rw [packsE_cons, if_neg hp]
          exact ih m (by simpa using hn) _ hA
  exact key L n hn [] g3
theorem wrong_name : rightL [⟨⟨#[65]⟩, ⟨#[49]⟩, []⟩] = 17 := by
  unfold rightL
  rw [if_neg (by decide), packsE_cons]
  have e : packE [] ⟨⟨#[65]⟩, ⟨#[49]⟩, []⟩ = 17 := by
    unfold packE
    have h : rightP ⟨#[65]⟩ ⟨#[49]⟩ [] = 17 := by unfold rightP; rw [if_pos (by decide)]
    rw [h, if_pos (by decide)]
  rw [e, if_pos (by decide)]
end Go.Proofs.YtkbhckjpmgkgjaaGreatDoor
namespace Go.Proofs.YtkbhckjpmgkgjaaGreatDoor
open Go.RowKit

theorem packs_of {wr : World} {B : Nat} {D : List PV} {ov : Value} (h : wr.ownsRow B 44 3 ov D.length (flatD D)) (hn : ∀ d ∈ D, NeedsIn wr d.2 d.1.nd) : PacksIn wr ov (D.map (·.1)) := by
  have h' := h
  have hl : (D.map (·.1)).length = D.length := List.length_map _
  obtain ⟨_, ⟨rfl, h0⟩ | ⟨g, cap, cur, rfl, _, hr, hc, _⟩⟩ := h
  · exact ⟨none, 0, 0, 0, by rw [hl, h0], by omega, fun h => absurd h (by omega), fun _ => rfl, fun i hi => absurd hi (by omega)⟩
  · refine ⟨some ⟨g, 0, none⟩, g, 0, cap, by rw [hl], by rw [hl]; exact hc, fun _ => ⟨rfl, (Array.getElem?_eq_some_iff.1 hr).1⟩, (fun h => by cases h), fun i hi => ?_⟩
    have hiD : i < D.length := by rw [hl] at hi; exact hi
    refine ⟨D[i].2, fun j u hj => ?_, ?_⟩
    · have hj3 : j < 3 := (List.getElem?_eq_some_iff.1 hj).1
      rw [List.getElem_map] at hj
      rw [Nat.zero_add, h'.cellAt (i * 3 + j) (by omega), flatD_at D i hiD j hj3]
      exact hj
    · rw [List.getElem_map]
      exact hn _ (List.getElem_mem hiD)
/-- One package more, whose needs lie elsewhere. -/
theorem twice_packs {w w8 w9 : World} {D : List PV} {ov ov' : Value} {p : Pak} {nv : Value} (h : OwR w w8 D ov) (hn : NeedsIn w9 nv p.nd) (ho : w9.ownsRow w.heap.size 44 3 ov' (D.length + 1) (flatD D ++ encP p nv)) (hg : w8.grownBy w9 ov.ownBlock) : PacksIn w9 ov' (D.map (·.1) ++ [p]) := by
  have hrow := ownsRow_row h.own
  have e : D.map (·.1) ++ [p] = (D ++ [(p, nv)]).map (·.1) := by rw [List.map_append]; rfl
  rw [e]
  refine packs_of (B := w.heap.size) (by rw [List.length_append, flatD_snoc]; exact ho) fun d hd => ?_
  rcases List.mem_append.1 hd with hd | hd
  · have hv := h.nds d hd
    refine needs_own (B := w.heap.size) (own_same hv fun k hk => hg.block k (own_block hv k hk).2 fun e => ?_)
    obtain ⟨C, hC⟩ := ownsRow_row hv k hk
    obtain ⟨E, hE⟩ := hrow k e.symm
    rw [hC] at hE
    simp at hE
  · rw [List.mem_singleton.1 hd]; exact hn
theorem own_set {w : World} {B s n : Nat} {e : TypeId} {g cap : Nat} {xs : List Value} (h : w.ownsRow B e s (.slice (some ⟨g, 0, none⟩) n cap) n xs) (k : Nat) (x : Value) : (w.setCell ⟨g, k, none⟩ x).ownsRow B e s (.slice (some ⟨g, 0, none⟩) n cap) n (xs.set k x) := by
  obtain ⟨hl, ⟨h1, _⟩ | ⟨g', cap', cur, h1, hb, hr, hnc, hcm, hsz, htk⟩⟩ := h
  · cases h1
  · simp only [Value.slice.injEq, Option.some.injEq, Addr.mk.injEq, and_true, true_and] at h1
    obtain ⟨rfl, rfl⟩ := h1
    refine ⟨by rw [List.length_set]; exact hl, Or.inr ⟨g, cap, cur.setIfInBounds k x, rfl, hb, Row.setCell hr x, hnc, hcm, by rw [Array.size_setIfInBounds]; exact hsz, ?_⟩⟩
    rw [← htk, Array.toList_setIfInBounds, List.take_set]
theorem flatD_set : ∀ (D : List PV) (n : Nat) (hn : n < D.length) (nd : List Ned) (v : Value), flatD (D.set n (⟨D[n].1.nm, D[n].1.vr, nd⟩, v)) = (flatD D).set (n * 3 + 2) v
  | [], n, hn, _, _ => absurd hn (by simp)
  | d :: r, 0, _, nd, v => rfl
  | d :: r, n + 1, hn, nd, v => by
    have hn' : n < r.length := by simpa using hn
    show encP d.1 d.2 ++ flatD (r.set n (⟨r[n].1.nm, r[n].1.vr, nd⟩, v)) = (encP d.1 d.2 ++ flatD r).set ((n + 1) * 3 + 2) v
    rw [flatD_set r n hn' nd v, List.set_append_right _ _ (by show 3 ≤ _; omega)]
    show _ = encP d.1 d.2 ++ (flatD r).set ((n + 1) * 3 + 2 - 3) v
    rw [show (n + 1) * 3 + 2 - 3 = n * 3 + 2 by omega]
/-- One package's needs are more. -/
theorem again_packs {w w8 w6 : World} {D : List PV} {go oc : Nat} (h : OwR w w8 D (.slice (some ⟨go, 0, none⟩) D.length oc)) {n : Nat} (hn : n < D.length) {wa : World} (hba : Below w8.heap.size w8 wa) {nd : List Ned} {v6 : Value} (h6 : w6.ownsRow w.heap.size 61 2 v6 nd.length (flatN nd)) (hg : wa.grownBy w6 (D[n].2).ownBlock) :
    PacksIn (w6.setCell ⟨go, n * 3 + 2, none⟩ v6) (.slice (some ⟨go, 0, none⟩) D.length oc) ((D.map (·.1)).set n ⟨D[n].1.nm, D[n].1.vr, nd⟩) ∧ Below w.heap.size w (w6.setCell ⟨go, n * 3 + 2, none⟩ v6) := by
  have hown := h.own
  have hrow := ownsRow_row hown go rfl
  have hgo := own_block hown go rfl
  have hrow6 : ∀ k, v6.ownBlock = some k → k ≠ go := fun k hk e => by
    obtain ⟨C, hC⟩ := ownsRow_row h6 k hk
    have hnn := ownsRow_row (h.nds D[n] (List.getElem_mem hn))
    obtain ⟨E, hE⟩ := hrow
    have hE6 : w6.heap[go]? = w8.heap[go]? := (hg.block go (Nat.lt_of_lt_of_le hgo.2 hba.size) fun e2 => by
      obtain ⟨G, hG⟩ := hnn go e2.symm
      rw [hE] at hG
      simp at hG).trans (hba.block go hgo.2)
    rw [e, hE6, hE] at hC
    simp at hC
  have hown6 : w6.ownsRow w.heap.size 44 3 (.slice (some ⟨go, 0, none⟩) D.length oc) D.length (flatD D) := own_same hown fun k hk => by
    have : k = go := by simpa [Value.ownBlock] using hk.symm
    subst this
    refine (hg.block k (Nat.lt_of_lt_of_le hgo.2 hba.size) fun e2 => ?_).trans (hba.block k hgo.2)
    obtain ⟨G, hG⟩ := ownsRow_row (h.nds D[n] (List.getElem_mem hn)) k e2.symm
    obtain ⟨E, hE⟩ := hrow
    rw [hE] at hG
    simp at hG
  have hset := own_set hown6 (n * 3 + 2) v6
  rw [← flatD_set D n hn nd v6] at hset
  have hmap : (D.map (·.1)).set n ⟨D[n].1.nm, D[n].1.vr, nd⟩ = (D.set n (⟨D[n].1.nm, D[n].1.vr, nd⟩, v6)).map (·.1) := by rw [List.map_set]
  have hlen : (D.set n (⟨D[n].1.nm, D[n].1.vr, nd⟩, v6)).length = D.length := List.length_set
  have h68 : Below w.heap.size w8 w6 := (hba.mono h.old.size).trans (below_own' hg (Nat.le_trans h.old.size hba.size) fun k hk => (own_block (h.nds D[n] (List.getElem_mem hn)) k hk).1)
  refine ⟨?_, (h.old.trans h68).trans (below_set hgo.1 _ _)⟩
  rw [hmap]
  refine packs_of (B := w.heap.size) (by rw [hlen]; exact hset) fun d hd => ?_
  obtain ⟨j, hj, rfl⟩ := List.getElem_of_mem hd
  rw [hlen] at hj
  by_cases hjn : j = n
  · subst hjn
    rw [List.getElem_set_self]
    exact needs_own (B := w.heap.size) (own_same h6 fun k hk => Below.heap_setCell _ _ _ _ (by show k ≠ go; exact hrow6 k hk))
  · rw [List.getElem_set_ne (fun e => hjn e.symm)]
    have hv := h.nds D[j] (List.getElem_mem hj)
    refine needs_own (B := w.heap.size) (own_same hv fun k hk => ?_)
    have hkgo : k ≠ go := fun e => by
      obtain ⟨C, hC⟩ := ownsRow_row hv k hk
      obtain ⟨E, hE⟩ := hrow
      rw [e, hE] at hC
      simp at hC
    refine (Below.heap_setCell _ _ _ _ (by show k ≠ go; exact hkgo)).trans ((hg.block k (Nat.lt_of_lt_of_le (own_block hv k hk).2 hba.size) fun e2 => ?_).trans (hba.block k (own_block hv k hk).2))
    have hp := List.pairwise_iff_getElem.1 h.sep
    rcases Nat.lt_or_gt_of_ne hjn with hl | hl
    · exact hp j n hj hn hl k k hk e2.symm rfl
    · exact hp n j hn hj hl k k e2.symm hk rfl
theorem two_nd (w : World) : (Instr.buildSlice 42 2 #[(0, .agg #[.string ⟨#[110, 111, 110, 101]⟩, .string ⟨#[42]⟩]), (1, .agg #[.string ⟨#[110, 111, 110, 101]⟩, .string ⟨#[42]⟩])]).run Tryz.prog w = .ok (.slice (some ⟨w.heap.size, 0, none⟩) 2 2) (w.alloc (.cells #[.string ⟨#[110, 111, 110, 101]⟩, .string ⟨#[42]⟩, .string ⟨#[110, 111, 110, 101]⟩, .string ⟨#[42]⟩] 61)) := by
  obtain ⟨i0, hi, hz0, hz1, _⟩ := info_parts infoNdz
  refine run_buildSlice w 42 61 2 _ _ i0 _ Tryz.underlying42 hi hz0 (by rw [hz1]; decide) (by rw [hz1]; decide) ?_
  rw [hz1]
  kernel_rfl
theorem one_in (w : World) (nm vr : ByteArray) : PacksIn (w.alloc (.cells #[.string nm, .string vr, .slice none 0 0] 44)) (.slice (some ⟨w.heap.size, 0, none⟩) 1 1) [⟨nm, vr, []⟩] := by
  have hr : Row (w.alloc (.cells #[.string nm, .string vr, .slice none 0 0] 44)) w.heap.size #[.string nm, .string vr, .slice none 0 0] 44 := Row.new _ _ _
  refine ⟨some ⟨w.heap.size, 0, none⟩, w.heap.size, 0, 1, rfl, Nat.le_refl _, fun _ => ⟨rfl, hr.lt⟩, (fun h => nomatch h), fun i hi => ?_⟩
  have hi0 : i = 0 := by simpa using hi
  subst hi0
  refine ⟨.slice none 0 0, fun j u hj => ?_, ⟨none, 0, 0, 0, rfl, Nat.le_refl _, fun h => absurd h (by simp), fun _ => rfl, fun i hi => absurd hi (by simp)⟩⟩
  rw [Nat.zero_mul, Nat.zero_add, hr.cell j, ← hj]
  exact List.getElem?_toArray
/-- The row of packages while one's needs grow. -/
theorem again_row {w w8 w6 : World} {D : List PV} {go oc : Nat} (h : OwR w w8 D (.slice (some ⟨go, 0, none⟩) D.length oc)) {n : Nat} (hn : n < D.length) {wa : World} (hba : Below w8.heap.size w8 wa) (hg : wa.grownBy w6 (D[n].2).ownBlock) :
    w8.cell? ⟨go, n * 3 + 2, none⟩ = some D[n].2 ∧ w6.cell? ⟨go, n * 3 + 2, none⟩ = some D[n].2 ∧ w6.frozen? ⟨go, n * 3 + 2, none⟩ = false ∧ ∀ v, (w6.setCell ⟨go, n * 3 + 2, none⟩ v).cell? ⟨go, n * 3 + 2, none⟩ = some v := by
  have hown := h.own
  have hgo := own_block hown go rfl
  obtain ⟨C, hC⟩ := ownsRow_row hown go rfl
  have hc8 : w8.cell? ⟨go, n * 3 + 2, none⟩ = some D[n].2 := by
    rw [hown.cellAt (n * 3 + 2) (by omega), flatD_at D n hn 2 (by omega)]
    rfl
  have hr8 : Row w8 go C 44 := hC
  have hlt : n * 3 + 2 < C.size := by
    have e := hr8.cell (n * 3 + 2)
    rw [hc8] at e
    exact (Array.getElem?_eq_some_iff.1 e.symm).1
  have hr6 : Row w6 go C 44 := ((hg.block go (Nat.lt_of_lt_of_le hgo.2 hba.size) fun e2 => by
    obtain ⟨G, hG⟩ := ownsRow_row (h.nds D[n] (List.getElem_mem hn)) go e2.symm
    rw [hC] at hG
    simp at hG).trans (hba.block go hgo.2)).trans hC
  refine ⟨hc8, ?_, hr6.frozen _, fun v => ?_⟩
  · rw [hr6.cell, ← hr8.cell, hc8]
  · rw [(hr6.setCell (i := n * 3 + 2) v).cell]
    simp [hlt]
/-- One package's needs are two more, in this program's words. -/
theorem again_all {L : List Pak} {w w8 w6 wa : World} {D : List PV} {go oc j : Nat} {v6 : Value} (h : OwR w w8 D (.slice (some ⟨go, 0, none⟩) D.length oc)) (hD : D.map (·.1) = L) (hj : j < L.length) (hjD : j < D.length) (hba : Below w8.heap.size w8 wa) (h6 : w6.ownsRow w.heap.size 61 2 v6 (L[j].nd.length + 2) (flatN L[j].nd ++ flatN [noneN, noneN])) (hg : wa.grownBy w6 (D[j].2).ownBlock) :
    PacksIn (w6.setCell ⟨go, j * 3 + 2, none⟩ v6) (.slice (some ⟨go, 0, none⟩) D.length oc) (L.set j ⟨L[j].nm, L[j].vr, L[j].nd ++ [noneN, noneN]⟩) ∧ Below w.heap.size w (w6.setCell ⟨go, j * 3 + 2, none⟩ v6) := by
  subst hD
  simp only [List.getElem_map] at h6 ⊢
  exact again_packs h hjD hba (by rw [List.length_append, flatN_app]; exact h6) hg
theorem two_one : ∀ u ∈ flatN [noneN, noneN], u.oneCell' = true := fun u hu => List.all_eq_true.1 (show (flatN [noneN, noneN]).all (·.oneCell') = true by kernel_rfl) u hu
theorem fit_snoc {L : List Pak} {p : Pak} (h : FitP L) (hp : p ∈ L) : FitP (L ++ [p]) := fun q hq => by
  rcases List.mem_append.1 hq with hq | hq
  · exact h q hq
  · rw [List.mem_singleton.1 hq]; exact h p hp
theorem fit_set {L : List Pak} {j : Nat} (h : FitP L) (hj : j < L.length) : FitP (L.set j ⟨L[j].nm, L[j].vr, L[j].nd ++ [noneN, noneN]⟩) := fun q hq => by
  have h0 := h L[j] (List.getElem_mem hj)
  rcases List.mem_or_eq_of_mem_set hq with hq | rfl
  · exact h q hq
  · refine ⟨h0.1, h0.2.1, fun n hn => ?_⟩
    rcases List.mem_append.1 hn with hn | hn
    · exact h0.2.2 n hn
    · simp at hn
      rw [hn]
      exact ⟨by show 4 ≤ _; omega, by show 1 ≤ _; omega⟩
theorem own_cell {w w8 : World} {D : List PV} {ov : Value} {go : Nat} (h : OwR w w8 D ov) (he : ov.ownBlock = some go) {n : Nat} (hn : n < D.length) : ∃ oc, ov = .slice (some ⟨go, 0, none⟩) D.length oc ∧ w8.cell? ⟨go, n * 3 + 2, none⟩ = some D[n].2 := by
  have hown := h.own
  obtain ⟨_, ⟨rfl, h0⟩ | ⟨g, cap, cur, rfl, _⟩⟩ := h.own
  · cases he
  · simp only [Value.ownBlock, Option.some.injEq] at he
    subst he
    exact ⟨cap, rfl, by rw [hown.cellAt (n * 3 + 2) (by omega), flatD_at D n hn 2 (by omega)]; rfl⟩
theorem own_some {w w8 : World} {D : List PV} {ov : Value} (h : OwR w w8 D ov) (hn : 0 < D.length) : ∃ go, ov.ownBlock = some go := by
  obtain ⟨_, ⟨rfl, h0⟩ | ⟨g, cap, cur, rfl, _⟩⟩ := h.own
  · omega
  · exact ⟨g, rfl⟩
/-- What holds while the names are gathered. -/
structure CnR (w wr : World) (L : List Pak) (i : Nat) (S : List ByteArray) (sv : Value) : Prop where
  own : wr.ownsRow w.heap.size 9 1 sv S.length (S.map Value.string)
  nd : S.Nodup
  mem : ∀ s, s ∈ S ↔ ∃ p ∈ L.take i, p.nm = s
  old : Below w.heap.size w wr
theorem CnR.next {w wr w' : World} {L : List Pak} {i : Nat} {S : List ByteArray} {sv : Value} (h : CnR w wr L i S sv) (hb : Below wr.heap.size wr w') : CnR w w' L i S sv :=
  ⟨own_below h.own hb, h.nd, h.mem, h.old.trans (hb.mono h.old.size)⟩
theorem CnR.skip {w wr : World} {L : List Pak} {i : Nat} {S : List ByteArray} {sv : Value} (h : CnR w wr L i S sv) (hi : i < L.length) (hin : L[i].nm ∈ S) : CnR w wr L (i + 1) S sv :=
  ⟨h.own, h.nd, fun s => by
    rw [h.mem s, List.take_succ_eq_append_getElem hi]
    constructor
    · rintro ⟨p, hp, he⟩; exact ⟨p, List.mem_append_left _ hp, he⟩
    · rintro ⟨p, hp, he⟩
      rcases List.mem_append.1 hp with hp | hp
      · exact ⟨p, hp, he⟩
      · rw [List.mem_singleton.1 hp] at he
        rw [← he]
        exact (h.mem _).1 hin, h.old⟩
theorem CnR.more {w wr w' : World} {L : List Pak} {i : Nat} {S : List ByteArray} {sv sv' : Value} {x : ByteArray} (h : CnR w wr L i S sv) (hi : i < L.length) (hx : x = L[i].nm) (hin : x ∉ S) (ho : w'.ownsRow w.heap.size 9 1 sv' (S.length + 1) (S.map Value.string ++ [.string x])) (hb : Below w.heap.size w w') : CnR w w' L (i + 1) (S ++ [x]) sv' :=
  ⟨by rw [List.length_append, List.map_append]; exact ho, by
    rw [List.nodup_append]
    exact ⟨h.nd, List.nodup_cons.2 ⟨List.not_mem_nil, List.nodup_nil⟩, fun a ha b hb => by
      rw [List.mem_singleton.1 hb]
      exact fun e => hin (by rw [← e]; exact ha)⟩, fun s => by
    rw [List.mem_append, h.mem s, List.take_succ_eq_append_getElem hi, List.mem_singleton]
    constructor
    · rintro (⟨p, hp, he⟩ | he)
      · exact ⟨p, List.mem_append_left _ hp, he⟩
      · exact ⟨L[i], List.mem_append_right _ (List.mem_singleton.2 rfl), by rw [he, hx]⟩
    · rintro ⟨p, hp, he⟩
      rcases List.mem_append.1 hp with hp | hp
      · exact Or.inl ⟨p, hp, he⟩
      · rw [List.mem_singleton.1 hp] at he
        exact Or.inr (by rw [hx, he]), hb⟩
/-- Told of the first ones: none is it. -/
def AllNe (b : Bool) (l : List ByteArray) (x : ByteArray) : Prop := b = true ↔ ∀ s ∈ l, s ≠ x
theorem cntN_le (L : List Pak) (s : ByteArray) : cntN L s ≤ L.length := verOf_len L s
end Go.Proofs.YtkbhckjpmgkgjaaGreatDoor
