/- My own work: slices.SortFunc at versions, the greatest first. My own work: Sort's first loop: versions and what is none, each in a row of its own. My own work: the walk of Sort, up to the sorting. My own work: what is sorted: all that there was, the greatest first, and sorted once. -/
import Derived.Test.YtdhmlcelofnkgaaGreatDoorVQ
import Derived.Test.YtdhmlcelofnkgaaGreatDoorShV
import Derived.Test.YtdhmlcelofnkgaaGreatDoorShW
import Derived.Test.YtdhmlcelofnkgaaGreatDoorVAp
import Derived.Test.YtdhmlcelofnkgaaGreatDoorV11
import Derived.Laws.MakeOwn
import Derived.Deep.MidRow
import Derived.Deep.Onto
import Derived.OwnWalk
import Derived.Shelf.SlSortCmp.NoneTotal
namespace Go.Proofs.YtdhmlcelofnkgaaGreatDoor
open Go.RowKit Go.Shelf Go.Lib Go.Sort

abbrev encV (v : Ver) : List Value := [.int .i64 v.n0, .int .i64 v.n1, .int .i64 v.n2, .int .i64 v.n3, .int .i64 v.cnt, .string v.tag]
instance : Inhabited Ver := ⟨zeroV⟩
/-- The greatest first. -/
def downV (a b : Ver) : Int := cmpV b a
theorem ltDown (x y : Ver) : ltOf downV x y = decide (cmpV y x < 0) := rfl
theorem swoV : SWO (ltOf downV) where
  irrefl x := by rw [ltDown, (cmpV_zero x x).2 rfl]; rfl
  trans x y z h1 h2 := by
    rw [ltDown, decide_eq_true_eq] at *
    have h3 := preV.tr z y x (by omega) (by omega)
    by_cases e : cmpV z x = 0
    · have e1 := (cmpV_zero z x).1 e
      subst e1
      have := preV.anti y z
      omega
    · omega
  ntrans x y z h1 h2 := by
    rw [ltDown, decide_eq_false_iff_not] at *
    have a1 := preV.anti y x
    have a2 := preV.anti z y
    have a3 := preV.anti z x
    have := preV.tr x y z (by omega) (by omega)
    omega
set_option maxRecDepth 20000 in
set_option maxHeartbeats 2000000 in
theorem closure_ok (a b : Ver) (W : World) : Calls Tryz.prog 49 #[.agg (verC a), .agg (verC b)] W fun e w' => e = .returned (.int .i64 (downV a b)) ∧ ∃ q os, w' = grow (W.drewN q) os := by
  have hA : Row (twoW W a b) W.heap.size (verC a) 98 := (Row.new W (verC a) 98).alloc _
  have hB : Row (twoW W a b) (W.heap.size + 1) (verC b) 98 := by
    have h := Row.new (W.alloc (.cells (verC a) 98)) (verC b) 98
    rw [World.size_alloc] at h
    exact h
  have HG : Hid (∃ q os, twoW (twoW W a b) b a = grow (W.drewN q) os) := ⟨0, _, by unfold twoW; rw [alloc_eq_grow, alloc_eq_grow, alloc_eq_grow, alloc_eq_grow, grow_grow, grow_grow, grow_grow]; rfl⟩
  obtain ⟨w2, hw2⟩ : ∃ x, x = twoW W a b := ⟨_, rfl⟩
  have hw2' := hw2.symm
  rw [← hw2] at hA hB HG
  have hc := compare_ok b a w2
  unfold downV
  generalize cmpV b a = c at *
  clear hw2
  go_enter Tryz.func49, Tryz.ntmps49
  go_wp2_with (first | (go_at_call 50; refine hc.mono ?_; rintro e w9 ⟨rfl, hw9⟩; rw [hw9]; clear hw9) | refine wpList_load_row rfl 98 _ rfl W.heap.size rfl 98 (verC a) (0, 0) _ hA Tryz.underlying98 rfl infoVs ?_ | refine wpList_load_row rfl 98 _ rfl (W.heap.size + 1) rfl 98 (verC b) (0, 0) _ hB Tryz.underlying98 rfl infoVs ?_)
  go_ret
  exact ⟨rfl, HG.out⟩
theorem cmpLaysV (blk off size : Nat) (w : World) : CmpLays Tryz.prog 49 #[] encV 6 downV blk off size w :=
  fun _ _ _ _ x y => closure_ok x y _
theorem sortV_ok (blk cap : Nat) (d : Array Ver) (w : World) (hH : HoldsK encV 6 w blk 0 d) (hblk : blk < w.heap.size) (hsz : d.size < 4611686018427387904) :
    Calls Tryz.prog 48 #[.slice (some ⟨blk, 0, none⟩) d.size cap, .func (.func 49) #[] #[]] w fun e w' => e = .returned (.tuple #[]) ∧ ∃ d' n os, PermIn 0 d.size d d' ∧ SortedIn (ltOf downV) 0 d.size d' ∧ w' = sortWorldK encV 6 w blk 0 n d' os :=
  AnyQ.slices_SortFunc Tryz.laysSf6 6 Tryz.isAgg98 Tryz.sizeOf98 encV (fun _ => rfl) (fun x u hu => by
    simp only [encV, List.mem_cons, List.not_mem_nil, or_false] at hu
    rcases hu with rfl | rfl | rfl | rfl | rfl | rfl <;> rfl) downV swoV 49 #[] blk 0 cap d w (enters_of Tryz.func49 (by kernel_rfl) rfl) (cmpLaysV blk 0 d.size w) hH hblk hsz
end Go.Proofs.YtdhmlcelofnkgaaGreatDoor
namespace Go.Proofs.YtdhmlcelofnkgaaGreatDoor
open Go.RowKit

theorem infoV : (Tryz.prog.info? 98).map (fun i => (i.zero, i.size, i.bytes)) = some (some (.agg zeroC), 6, 56) := by kernel_rfl
/-- Cells of versions, one behind another. -/
def flatV (L : List Ver) : List Value := (L.map encV).flatten
theorem flatV_len (L : List Ver) : (flatV L).length = L.length * 6 := by
  induction L with
  | nil => rfl
  | cons v L ih =>
    have h6 : (encV v).length = 6 := rfl
    show (encV v ++ flatV L).length = (L.length + 1) * 6
    rw [List.length_append, ih, h6]
    omega
theorem flatV_snoc (L : List Ver) (v : Ver) : flatV (L ++ [v]) = flatV L ++ encV v := by
  unfold flatV
  rw [List.map_append, List.flatten_append]
  simp
/-- One version is appended to a row of one's own. -/
theorem wpList_ap_ver {w w1 : World} {ops : Array Oper} {rest : List Oper} {o : Oper} {a : Act} {Q : Exit → Act → World → Prop} (hgd : o.guard = none) (dd : Option Tmp) (hdd : o.dst = dd) (s x : Operand) (ho : o.op = .call { callee := .builtin .append, args := #[s, x], argTypes := #[107, 107] }) (B : Nat) (v : Value) (n : Nat) (xs : List Value) (hs : a.eval s = v) (t : Ver) (hw : w1 = w.alloc (.cells (verC t) 98)) (g : Nat) (hg : g = w.heap.size) (hown : w1.ownsRow B 98 6 v n xs) (hx : a.eval x = .slice (some ⟨g, 0, none⟩) 1 1) (hB : B ≤ w.heap.size) (hby : (n + 1) * 56 ≤ 140737488355328)
    (h : ∀ v' w', w'.ownsRow B 98 6 v' (n + 1) (xs ++ encV t) → w1.grownBy w' v.ownBlock → wpList Tryz.prog ops Q rest (a.put dd v') w') : wpList Tryz.prog ops Q (o :: rest) a w1 := by
  subst hw hg
  refine wpList_plain hgd fun K hK => wp_append_any dd hdd s x 107 98 (.agg zeroC) 6 56 Tryz.underlying107 infoV rfl (by decide) ho B v n xs hs hown (some ⟨w.heap.size, 0, none⟩) w.heap.size 0 1 1 (encV t) rfl hx (fun _ => rfl) (fun j u hj => ?_) (fun u hu => ?_) (fun h => nomatch h) (by unfold maxLen; omega) hby (by simp; omega) (fun v' w' h1 h2 _ => hK _ _ (h v' w' h1 h2))
  · rw [Nat.zero_add, Row.cell (Row.new w (verC t) 98) j]
    show (encV t).toArray[j]? = _
    rw [List.getElem?_toArray]
    exact hj
  · simp only [encV, List.mem_cons, List.not_mem_nil, or_false] at hu
    rcases hu with rfl | rfl | rfl | rfl | rfl | rfl <;> rfl
/-- Texts that lie somewhere below. -/
structure TxAt (w : World) (a : Option Addr) (L : List ByteArray) (c : Nat) : Prop where
  ex : ∃ b off, (0 < L.length → a = some ⟨b, off, none⟩) ∧ ∀ i (h : i < L.length), w.cell? ⟨b, off + i, none⟩ = some (.string L[i])
  le : L.length ≤ c
  each : ∀ x ∈ L, x.size ≤ 140737488355328
/-- Which are versions' texts, and which are not. -/
def versOf (L : List ByteArray) : List Ver := L.filterMap fun s => parseV (vb s)
def restOf (L : List ByteArray) : List ByteArray := L.filter fun s => (parseV (vb s)).isNone
theorem versOf_snoc (L : List ByteArray) (s : ByteArray) {v : Ver} (h : parseV (vb s) = some v) : versOf (L ++ [s]) = versOf L ++ [v] ∧ restOf (L ++ [s]) = restOf L := by
  unfold versOf restOf
  rw [List.filterMap_append, List.filter_append]
  simp [h]
theorem restOf_snoc (L : List ByteArray) (s : ByteArray) (h : parseV (vb s) = none) : versOf (L ++ [s]) = versOf L ∧ restOf (L ++ [s]) = restOf L ++ [s] := by
  unfold versOf restOf
  rw [List.filterMap_append, List.filter_append]
  simp [h]
theorem versOf_len (L : List ByteArray) : (versOf L).length + (restOf L).length = L.length := by
  unfold versOf restOf
  induction L with
  | nil => rfl
  | cons s L ih =>
    cases h : parseV (vb s) with
    | none => simp only [List.filterMap_cons, h, List.filter_cons, Option.isNone_none, if_true, List.length_cons]; omega
    | some v => simp only [List.filterMap_cons, h, List.filter_cons, Option.isNone_some, List.length_cons]; simp; omega
/-- What holds behind k texts. -/
structure SoR (w wr : World) (L : List ByteArray) (k : Nat) (vv ov : Value) : Prop where
  vers : wr.ownsRow w.heap.size 98 6 vv (versOf (L.take k)).length (flatV (versOf (L.take k)))
  rest : wr.ownsRow w.heap.size 9 1 ov (restOf (L.take k)).length ((restOf (L.take k)).map Value.string)
  bel : Below w.heap.size w wr
  tab : Pw wr
  glob : 2 < w.heap.size
theorem SoR.next {w wr w' : World} {L : List ByteArray} {k : Nat} {vv ov : Value} (h : SoR w wr L k vv ov) (hb : Below wr.heap.size wr w') : SoR w w' L k vv ov :=
  ⟨own_below h.vers hb, own_below h.rest hb, h.bel.trans (hb.mono h.bel.size), h.tab.keep hb h.tab.lt, h.glob⟩
theorem own_apart {w : World} {B n m : Nat} {v v' : Value} {xs ys : List Value} (h : w.ownsRow B 98 6 v n xs) (h' : w.ownsRow B 9 1 v' m ys) : v.ownBlock = none ∨ v.ownBlock ≠ v'.ownBlock := by
  cases e : v.ownBlock with
  | none => exact Or.inl rfl
  | some k =>
    refine Or.inr fun e' => ?_
    obtain ⟨C, hC⟩ := ownsRow_row h k e
    obtain ⟨D, hD⟩ := ownsRow_row h' k e'.symm
    rw [hC] at hD
    simp at hD
theorem below_own {w w' : World} {B : Nat} {row : Option Nat} (hg : w.grownBy w' row) (hB : B ≤ w.heap.size) (hr : ∀ k, row = some k → B ≤ k) : Below B w w' :=
  ⟨hg.os, hg.tape, hg.output, hg.size, fun k hk => hg.block k (by omega) fun e => by have := hr k e.symm; omega⟩
theorem SoR.ver {w w1 w' : World} {L : List ByteArray} {k : Nat} {vv ov vv' : Value} {v : Ver} (h : SoR w w1 L k vv ov) (hk : k < L.length) (hp : parseV (vb L[k]) = some v) (ho : w'.ownsRow w.heap.size 98 6 vv' ((versOf (L.take k)).length + 1) (flatV (versOf (L.take k)) ++ encV v)) (hg : w1.grownBy w' vv.ownBlock) : SoR w w' L (k + 1) vv' ov := by
  have e : L.take (k + 1) = L.take k ++ [L[k]] := by rw [List.take_add_one, List.getElem?_eq_getElem hk]; rfl
  obtain ⟨e1, e2⟩ := versOf_snoc (L.take k) L[k] hp
  have hb : Below w.heap.size w1 w' := below_own hg h.bel.size (fun j hj => (h.vers.lt j hj).1)
  refine ⟨?_, ?_, h.bel.trans hb, h.tab.keep hb h.glob, h.glob⟩
  · rw [e, e1, flatV_snoc, List.length_append]
    exact ho
  · rw [e, e2]
    exact h.rest.kept hg (by
      rcases own_apart h.vers h.rest with h1 | h1
      · cases e3 : ov.ownBlock with
        | none => exact Or.inl rfl
        | some j => exact Or.inr (by rw [h1]; simp)
      · exact Or.inr (Ne.symm h1))
theorem SoR.none {w w1 w' : World} {L : List ByteArray} {k : Nat} {vv ov ov' : Value} (h : SoR w w1 L k vv ov) (hk : k < L.length) (hp : parseV (vb L[k]) = none) (ho : w'.ownsRow w.heap.size 9 1 ov' ((restOf (L.take k)).length + 1) ((restOf (L.take k)).map Value.string ++ [.string L[k]])) (hg : w1.grownBy w' ov.ownBlock) : SoR w w' L (k + 1) vv ov' := by
  have e : L.take (k + 1) = L.take k ++ [L[k]] := by rw [List.take_add_one, List.getElem?_eq_getElem hk]; rfl
  obtain ⟨e1, e2⟩ := restOf_snoc (L.take k) L[k] hp
  have hb : Below w.heap.size w1 w' := below_own hg h.bel.size (fun j hj => (h.rest.lt j hj).1)
  refine ⟨?_, ?_, h.bel.trans hb, h.tab.keep hb h.glob, h.glob⟩
  · rw [e, e1]
    exact h.vers.kept hg (own_apart h.vers h.rest)
  · rw [e, e2, List.map_append, List.length_append]
    exact ho
end Go.Proofs.YtdhmlcelofnkgaaGreatDoor
namespace Go.Proofs.YtdhmlcelofnkgaaGreatDoor
open Go.RowKit Go.Sort

theorem flatV_at (L : List Ver) (t : Nat) (h : t < L.length * 6) : (flatV L)[t]? = (encV (L[t / 6]'(by omega)))[t % 6]? := by
  induction L generalizing t with
  | nil => simp at h
  | cons v L ih =>
    have h6 : (encV v).length = 6 := rfl
    show (encV v ++ flatV L)[t]? = _
    by_cases ht : t < 6
    · rw [List.getElem?_append_left (by rw [h6]; exact ht)]
      have e1 : t / 6 = 0 := by omega
      have e2 : t % 6 = t := by omega
      simp only [e1, e2]
      rfl
    · rw [List.getElem?_append_right (by rw [h6]; omega), h6, ih (t - 6) (by rw [List.length_cons] at h; omega)]
      have e1 : t / 6 = (t - 6) / 6 + 1 := by omega
      have e2 : t % 6 = (t - 6) % 6 := by omega
      simp only [e1, e2, List.getElem_cons_succ]
theorem holds_own {w : World} {B g cap : Nat} {L : List Ver} (h : w.ownsRow B 98 6 (.slice (some ⟨g, 0, none⟩) L.length cap) L.length (flatV L)) : HoldsK encV 6 w g 0 L.toArray := by
  intro j hj
  rw [size_flatK, List.size_toArray] at hj
  rw [Nat.zero_add, get_flatK _ _ _ _ (by rw [List.size_toArray]; exact hj)]
  refine ⟨?_, h.frozenAt j⟩
  rw [h.cellAt j hj, flatV_at L j hj]
  have hl : j / 6 < L.length := by omega
  have hm : j % 6 < 6 := Nat.mod_lt _ (by decide)
  rw [getElem!_pos L.toArray (j / 6) (by rw [List.size_toArray]; exact hl)]
  simp only [List.getElem_toArray]
  rw [getElem!_pos (encV L[j / 6]) (j % 6) hm, List.getElem?_eq_getElem hm]
  rfl
theorem sort_other {w : World} {blk off m j : Nat} {dk : Array Ver} {os : Array Obj} (hj : j ≠ blk) (hl : j < w.heap.size) : (sortWorldK encV 6 w blk off m dk os).heap[j]? = w.heap[j]? := by
  unfold sortWorldK grow putRowK putRow mapBlock
  show ((w.heap.modify blk _) ++ os)[j]? = _
  rw [Array.getElem?_append_left (by simpa using hl), Array.getElem?_modify, if_neg (Ne.symm hj)]
theorem sort_grown {w : World} {blk off m : Nat} {dk : Array Ver} {os : Array Obj} : w.grownBy (sortWorldK encV 6 w blk off m dk os) (some blk) := by
  refine ⟨rfl, rfl, rfl, ?_, fun k hk hne => sort_other (fun e => hne (by rw [e])) hk⟩
  unfold sortWorldK grow putRowK putRow mapBlock
  show w.heap.size ≤ ((w.heap.modify blk _) ++ os).size
  rw [Array.size_append, Array.size_modify]
  show w.heap.size ≤ w.heap.size + _
  omega
/-- The greatest first. -/
def Falls (L : List Ver) : Prop := L.Pairwise fun a b => 0 ≤ cmpV a b
/-- Versions in a row that is only read from now on. -/
structure VsAt (w : World) (vv : Value) (L : List Ver) (B : Nat) : Prop where
  ex : ∃ (a : Option Addr) (g cap : Nat), vv = .slice a L.length cap ∧ (0 < L.length → a = some ⟨g, 0, none⟩ ∧ g < B) ∧ L.length ≤ cap ∧ ∀ t u, t < L.length * 6 → (flatV L)[t]? = some u → w.cell? ⟨g, t, none⟩ = some u
theorem VsAt.keep {w w' : World} {vv : Value} {L : List Ver} {B : Nat} (h : VsAt w vv L B) (hb : Below B w w') : VsAt w' vv L B := by
  obtain ⟨a, g, cap, h1, h2, h3, h4⟩ := h.ex
  refine ⟨a, g, cap, h1, h2, h3, fun t u ht hu => ?_⟩
  have hg := (h2 (by omega)).2
  exact (hb.cell (p := ⟨g, t, none⟩) hg).trans (h4 t u ht hu)
theorem extract_all {α : Type} (d : Array α) : (d.extract 0 d.size).toList = d.toList := by simp
/-- slices.SortFunc on versions in a row of one's own. -/
theorem sort_any {w : World} {B : Nat} {vv : Value} {L : List Ver} (h : w.ownsRow B 98 6 vv L.length (flatV L)) (hl : L.length ≤ 1000) : Calls Tryz.prog 48 #[vv, .func (.func 49) #[] #[]] w fun e w' => e = .returned (.tuple #[]) ∧ ∃ vs : List Ver, vs.Perm L ∧ Falls vs ∧ VsAt w' vv vs w'.heap.size ∧ w.grownBy w' vv.ownBlock := by
  by_cases h0 : L.length = 0
  · have hL : L = [] := List.eq_nil_of_length_eq_zero h0
    subst hL
    obtain ⟨a, cap, hvv⟩ : ∃ a cap, vv = .slice a 0 cap := by
      obtain ⟨_, ⟨rfl, _⟩ | ⟨g, cap, cur, rfl, _⟩⟩ := h
      · exact ⟨_, _, rfl⟩
      · exact ⟨_, _, rfl⟩
    subst hvv
    refine (AnyF.slices_SortFunc_none Tryz.laysSf6 a cap (.func (.func 49) #[] #[]) w).mono ?_
    rintro e w' ⟨rfl, rfl⟩
    exact ⟨rfl, [], List.Perm.refl _, List.Pairwise.nil, ⟨a, 0, cap, rfl, fun h => absurd h (by simp), Nat.zero_le _, fun t u ht => absurd ht (by simp)⟩, ⟨rfl, rfl, rfl, Nat.le_refl _, fun _ _ _ => rfl⟩⟩
  · have h' := h
    obtain ⟨_, ⟨_, h1⟩ | ⟨g, cap, cur, rfl, hBg, hrow, hnc, _, _, _⟩⟩ := h
    · exact absurd h1 h0
    have hlt : g < w.heap.size := (Array.getElem?_eq_some_iff.1 hrow).1
    have hH := holds_own h'
    have H := sortV_ok g cap L.toArray w hH hlt (by rw [List.size_toArray]; omega)
    rw [List.size_toArray] at H
    refine H.mono ?_
    rintro e w' ⟨rfl, d', m, os, hP, hS, rfl⟩
    obtain ⟨p1, _, p3⟩ := hP
    have p1 : d'.size = L.length := by simpa using p1
    have hperm : d'.toList.Perm L := by
      have e1 : (d'.extract 0 L.length).toList = d'.toList := by rw [← p1]; exact extract_all d'
      have e2 : (L.toArray.extract 0 L.length).toList = L := by
        have := extract_all L.toArray
        rw [List.size_toArray] at this
        rw [this]
      rw [e1, e2] at p3
      exact p3
    have hH2 := holdsK_sortWorldK encV 6 w g 0 m L.toArray d' os hlt hH (by rw [List.size_toArray]; exact p1)
    refine ⟨rfl, d'.toList, hperm, ?_, ⟨some ⟨g, 0, none⟩, g, cap, by rw [hperm.length_eq], fun _ => ⟨rfl, lt_sortWorldK encV 6 w g 0 m d' os hlt⟩, by rw [hperm.length_eq]; exact hnc, fun t u ht hu => ?_⟩, sort_grown⟩
    · unfold Falls
      rw [List.pairwise_iff_getElem]
      intro i j hi hj hij
      have hi' : i < d'.size := by simpa using hi
      have hj' : j < d'.size := by simpa using hj
      have h5 := hS i j (Nat.zero_le _) hij (by omega)
      rw [getElem!_pos d' i hi', getElem!_pos d' j hj', ltDown, decide_eq_false_iff_not] at h5
      simp only [Array.getElem_toList]
      omega
    · rw [Array.length_toList] at ht
      have h5 := (hH2 t (by rw [size_flatK]; exact ht)).1
      rw [Nat.zero_add, get_flatK _ _ _ _ ht] at h5
      rw [flatV_at d'.toList t (by rw [Array.length_toList]; exact ht)] at hu
      rw [h5]
      have hl6 : t / 6 < d'.size := by omega
      have hm : t % 6 < 6 := Nat.mod_lt _ (by decide)
      rw [getElem!_pos d' (t / 6) hl6, getElem!_pos (encV d'[t / 6]) (t % 6) hm]
      simp only [Array.getElem_toList] at hu
      rw [List.getElem?_eq_getElem hm] at hu
      exact hu
/-- All texts of a row are appended to a row of one's own. -/
theorem wpList_ap_all {w : World} {ops : Array Oper} {rest : List Oper} {o : Oper} {a : Act} {Q : Exit → Act → World → Prop} (hgd : o.guard = none) (dd : Option Tmp) (hdd : o.dst = dd) (s x : Operand) (ho : o.op = .call { callee := .builtin .append, args := #[s, x], argTypes := #[38, 38] }) (B : Nat) (v : Value) (n : Nat) (xs : List Value) (hs : a.eval s = v) (hown : w.ownsRow B 9 1 v n xs) (ra : Option Addr) (rg cap : Nat) (X : List ByteArray) (hx : a.eval x = .slice ra X.length cap) (hat : 0 < X.length → ra = some ⟨rg, 0, none⟩) (hnone : ra = none → X.length = 0 ∧ cap = 0) (hcell : ∀ t u, (X.map Value.string)[t]? = some u → w.cell? ⟨rg, 0 + t, none⟩ = some u) (hB : B ≤ w.heap.size) (hby : (n + X.length) * 16 ≤ 140737488355328)
    (h : ∀ v' w', w'.ownsRow B 9 1 v' (n + X.length) (xs ++ X.map Value.string) → w.grownBy w' v.ownBlock → wpList Tryz.prog ops Q rest (a.put dd v') w') : wpList Tryz.prog ops Q (o :: rest) a w :=
  wpList_plain hgd fun K hK => wp_append_any dd hdd s x 38 9 (.string ⟨#[]⟩) 1 16 Tryz.underlying38 info9 rfl (by decide) ho B v n xs hs hown ra rg 0 X.length cap (X.map Value.string) (by simp) hx hat hcell (fun u hu => by obtain ⟨y, _, rfl⟩ := List.mem_map.1 hu; rfl) hnone (by unfold maxLen; omega) hby hB (fun v' w' h1 h2 _ => hK _ _ (h v' w' h1 h2))
/-- What Sort tells. -/
def SortPost (L : List ByteArray) (w : World) (e : Ending) (w' : World) : Prop :=
  ∃ (vs : List Ver) (rv : Value), e = .returned rv ∧ vs.Perm (versOf L) ∧ Falls vs ∧ w'.ownsRow w.heap.size 9 1 rv L.length ((vs.map (fun v => tx (textV v)) ++ restOf L).map Value.string) ∧ Below w.heap.size w w'
/-- What holds while the texts are told. -/
structure SoT (w5 wr : World) (vs : List Ver) (k : Nat) (sv : Value) : Prop where
  own : wr.ownsRow w5.heap.size 9 1 sv k ((vs.take k).map fun v => Value.string (tx (textV v)))
  bel : Below w5.heap.size w5 wr
  tab : Pw wr
  low : w5.heap.size ≤ wr.heap.size
  glob : 2 < w5.heap.size
theorem SoT.next {w5 wr w' : World} {vs : List Ver} {k : Nat} {sv : Value} (h : SoT w5 wr vs k sv) (hb : Below wr.heap.size wr w') : SoT w5 w' vs k sv :=
  ⟨own_below h.own hb, h.bel.trans (hb.mono h.low), h.tab.keep hb h.tab.lt, Nat.le_trans h.low hb.size, h.glob⟩
theorem SoT.more {w5 w1 w' : World} {vs : List Ver} {k : Nat} {sv sv' : Value} (h : SoT w5 w1 vs k sv) (hk : k < vs.length) (ho : w'.ownsRow w5.heap.size 9 1 sv' (k + 1) (((vs.take k).map fun v => Value.string (tx (textV v))) ++ [.string (tx (textV vs[k]))])) (hg : w1.grownBy w' sv.ownBlock) : SoT w5 w' vs (k + 1) sv' := by
  have hb : Below w5.heap.size w1 w' := below_own hg h.low (fun j hj => (h.own.lt j hj).1)
  refine ⟨?_, h.bel.trans hb, h.tab.keep hb h.glob, Nat.le_trans h.low hg.size, h.glob⟩
  rw [List.take_add_one, List.getElem?_eq_getElem hk, List.map_append]
  exact ho
theorem parse_may {s : By} {v : Ver} (h : parseV s = some v) : mayV v = true := (mayV_iff v).2 (parse_back h).1
theorem vers_may {L : List ByteArray} {v : Ver} (h : v ∈ versOf L) : mayV v = true := by
  unfold versOf at h
  obtain ⟨s, _, hs⟩ := List.mem_filterMap.1 h
  exact parse_may hs
theorem VsAt.range {w : World} {vv : Value} {L : List Ver} {B : Nat} (h : VsAt w vv L B) (hl : 0 < L.length) : ∃ g cap, vv = .slice (some ⟨g, 0, none⟩) L.length cap ∧ L.length ≤ cap ∧ ∀ k (hk : k < L.length), ∀ j u, (encV L[k])[j]? = some u → w.cell? ⟨g, k * 6 + j, none⟩ = some u := by
  obtain ⟨a, g, cap, h1, h2, h3, h4⟩ := h.ex
  refine ⟨g, cap, by rw [h1, (h2 hl).1], h3, fun k hk j u hj => ?_⟩
  have hj6 : j < 6 := (List.getElem?_eq_some_iff.1 hj).1
  have hlt : k * 6 + j < L.length * 6 := by omega
  refine h4 (k * 6 + j) u hlt ?_
  rw [flatV_at L (k * 6 + j) hlt]
  have e1 : (k * 6 + j) / 6 = k := by omega
  have e2 : (k * 6 + j) % 6 = j := by omega
  simp only [e1, e2]
  exact hj
set_option maxRecDepth 20000 in
set_option maxHeartbeats 16000000 in
theorem sort_ok (L : List ByteArray) (la : Option Addr) (lc : Nat) (w : World) (hL : TxAt w la L lc) (hn : L.length ≤ 1000) (hT : Pw w) : Calls Tryz.prog 29 #[.slice la L.length lc] w (SortPost L w) := by
  obtain ⟨b, off, ha, hcells⟩ := hL.ex
  have hbl : 0 < L.length → b < w.heap.size := fun h => World.block_lt_of_cell? w _ (hcells 0 h)
  have HCL : Hid (∀ wx, Below w.heap.size w wx → ∀ i (h : i < L.length), wx.cell? ⟨b, off + i, none⟩ = some (.string L[i])) := fun wx hx i h => (hx.cell (p := ⟨b, off + i, none⟩) (hbl (by omega))).trans (hcells i h)
  have HA : Hid _ := ha
  have HE : Hid _ := hL.each
  have hlc := hL.le
  obtain ⟨n, hnl⟩ : ∃ n, n = L.length := ⟨_, rfl⟩
  have HN : Hid _ := hnl
  rw [← hnl] at hlc hn
  rw [← hnl]
  have HS0 : Hid (SoR w w L 0 (.slice none 0 0) (.slice none 0 0)) := ⟨World.ownsRow_nil _ _ _ _, World.ownsRow_nil _ _ _ _, Below.refl _ _, hT, hT.lt⟩
  have HPA : Hid (∀ s wx, s ∈ L → Calls Tryz.prog 43 #[.string s] wx fun e w' => e = .returned (parseE s) ∧ Below wx.heap.size wx w') := fun s wx hs => parse_ok s wx (HE.out s hs)
  have HCO : Hid (∀ s wx, s ∈ L → Calls Tryz.prog 47 #[.string s] wx fun e w' => e = .returned (.string s) ∧ Below wx.heap.size wx w') := fun s wx hs => clone_ok s wx (HE.out s hs)
  clear ha hcells hbl hL hnl hT
  go_enter Tryz.func29, Tryz.ntmps29
  go_wp2
  go_loopw [3, 4, 16] (fun vv ov i wr => ∃ k : Nat, k ≤ n ∧ i = .int .i64 k ∧ SoR w wr L k vv ov) (fun _ _ i _ => n - (intOf i).toNat)
  case atStart => exact ⟨0, Nat.zero_le _, rfl, HS0.out⟩
  case round =>
    obtain ⟨k, hk, rfl, hS⟩ := hrel
    have HS : Hid (SoR w wr L k u3 u4) := hS
    clear hS
    by_cases hlt : k < n
    · have hkl : k < L.length := by have := HN.out; omega
      have hlt' : (k : Int) < (n : Int) := by omega
      obtain rfl := HA.out (by omega)
      have hcell := HCL.out wr (SoR.bel HS.out) k hkl
      obtain ⟨x, hx⟩ : ∃ x, x = L[k] := ⟨_, rfl⟩
      have HX : Hid (L[k] = x) := hx.symm
      have hxm : x ∈ L := by rw [hx]; exact List.getElem_mem _
      rw [← hx] at hcell
      have hp := HPA.out x wr hxm
      have hlv : (versOf (L.take k)).length ≤ 1000 ∧ (restOf (L.take k)).length ≤ 1000 := by
        have := versOf_len (L.take k)
        rw [List.length_take] at this
        omega
      clear hx
      cases hpv : parseV (vb x) with
      | some v =>
        rw [parseE_yes hpv] at hp
        have HPV : Hid (parseV (vb x) = some v) := hpv
        clear hpv
        go_wp2_with fail
        refine hp.mono ?_
        rintro e w3 ⟨rfl, hb3⟩
        have h3 := SoR.next HS.out hb3
        have h4 := h3.next ((Below.refl _ _).alloc (Nat.le_refl _) (.cells (verC v) 98))
        have hr4 : Row (w3.alloc (.cells (verC v) 98)) w3.heap.size (verC v) 98 := Row.new _ _ _
        obtain ⟨w4, hw4⟩ : ∃ z, z = w3.alloc (.cells (verC v) 98) := ⟨_, rfl⟩
        rw [← hw4] at h4 hr4
        have hw4' := hw4.symm
        have h5 := h4.next ((Below.refl _ _).alloc (Nat.le_refl _) (.cells (verC v) 98))
        have HS5 : Hid (SoR w (w4.alloc (.cells (verC v) 98)) L k u3 u4) := h5
        have HR4 : Hid (Row w4 w3.heap.size (verC v) 98) := hr4
        have hlow := h4.bel.size
        clear hp hb3 h3 h4 h5 hcell hw4 hr4
        go_wp2_with (first | refine wpList_store_new rfl 98 _ _ rfl w3 zeroC (verC v) 98 rfl w3.heap.size rfl rfl rfl infoVs rfl (verC_one _) ?_ | refine wpList_load_row rfl 98 _ rfl w3.heap.size rfl 98 (verC v) (0, 0) _ HR4.out Tryz.underlying98 rfl infoVs ?_ | (at_builtin; refine wpList_ap_ver rfl (some 30) rfl _ _ rfl w.heap.size u3 (versOf (L.take k)).length (flatV (versOf (L.take k))) rfl v rfl w4.heap.size rfl (SoR.vers HS5.out) rfl hlow (by omega) ?_; intro v6 w6 ho6 hg6))
        have HS6 : Hid (SoR w w6 L (k + 1) v6 u4) := SoR.ver HS5.out hkl (by rw [HX.out]; exact HPV.out) ho6 hg6
        clear ho6 hg6
        go_roundw
        case rel => exact ⟨k + 1, by omega, by go_num, HS6.out⟩
        case measure => simp [intOf]; omega
      | none =>
        rw [parseE_no hpv] at hp
        have HPV : Hid (parseV (vb x) = none) := hpv
        clear hpv
        go_wp2_with fail
        refine hp.mono ?_
        rintro e w3 ⟨rfl, hb3⟩
        have h3 := SoR.next HS.out hb3
        have h4 := h3.next ((Below.refl _ _).alloc (Nat.le_refl _) (.cells zeroC 98))
        have HS4 : Hid (SoR w (w3.alloc (.cells zeroC 98)) L k u3 u4) := h4
        clear hp hb3 h3 h4 hcell
        go_wp2_with (refine wpList_store_new rfl 98 _ _ rfl w3 zeroC zeroC 98 rfl w3.heap.size rfl rfl rfl infoVs rfl zeroC_one ?_)
        refine (HCO.out x _ hxm).mono ?_
        rintro e w5 ⟨rfl, hb5⟩
        have h5 := SoR.next HS4.out hb5
        have hlow := h5.bel.size
        have h6 := h5.next ((Below.refl _ _).alloc (Nat.le_refl _) (.cells #[.string x] 9))
        have HS6 : Hid (SoR w (w5.alloc (.cells #[.string x] 9)) L k u3 u4) := h6
        clear hb5 h5 h6
        go_wp2_with (at_builtin; refine wpList_ap_one rfl (some 35) rfl _ _ rfl w.heap.size u4 (restOf (L.take k)).length ((restOf (L.take k)).map Value.string) rfl x rfl w5.heap.size rfl (SoR.rest HS6.out) rfl hlow (by omega) ?_; intro v7 w7 ho7 hg7)
        have HS7 : Hid (SoR w w7 L (k + 1) u3 v7) := SoR.none HS6.out hkl (by rw [HX.out]; exact HPV.out) (by rw [HX.out]; exact ho7) hg7
        clear ho7 hg7
        go_roundw
        case rel => exact ⟨k + 1, by omega, by go_num, HS7.out⟩
        case measure => simp [intOf]; omega
    · have hlt' : ¬ (k : Int) < (n : Int) := by omega
      have hkL : L.take k = L := List.take_of_length_le (by have := HN.out; omega)
      have hSv := SoR.vers HS.out
      have hSr := SoR.rest HS.out
      rw [hkL] at hSv hSr
      have hvl := versOf_len L
      have hsa := sort_any hSv (by have := HN.out; omega)
      have HSr : Hid (wr.ownsRow w.heap.size 9 1 u4 (restOf L).length ((restOf L).map Value.string)) := hSr
      have HAP : Hid (u3.ownBlock = none ∨ u3.ownBlock ≠ u4.ownBlock) := own_apart hSv hSr
      have HLT : Hid (∀ j, u3.ownBlock = some j → w.heap.size ≤ j) := fun j hj => (hSv.lt j hj).1
      clear hkL hSv hSr
      go_wp2_with fail
      refine hsa.mono ?_
      rintro e w5 ⟨rfl, vs, hperm, hfall, hvs, hgr⟩
      have hb5 : Below w.heap.size wr w5 := below_own hgr (SoR.bel HS.out).size HLT.out
      have HR5 : Hid (w5.ownsRow w.heap.size 9 1 u4 (restOf L).length ((restOf L).map Value.string)) := HSr.out.kept hgr (by
        rcases HAP.out with h1 | h1
        · cases e3 : u4.ownBlock with
          | none => exact Or.inl rfl
          | some j => exact Or.inr (by rw [h1]; simp)
        · exact Or.inr (Ne.symm h1))
      have HB5 : Hid (Below w.heap.size w w5) := (SoR.bel HS.out).trans hb5
      have HT5 : Hid (Pw w5) := (SoR.tab HS.out).keep hb5 (SoR.glob HS.out)
      have HV5 : Hid (VsAt w5 u3 vs w5.heap.size) := hvs
      have HPM : Hid (vs.Perm (versOf L)) := hperm
      have HFA : Hid (Falls vs) := hfall
      have hvlen : vs.length + (restOf L).length = n := by rw [hperm.length_eq, hvl]; exact HN.out.symm
      obtain ⟨i0, hi0, hz0, hz1, hz2⟩ := info_parts info9
      obtain ⟨w6, hmk, hown6, hgr6⟩ := run_make_own (P := Tryz.prog) w5 w5.heap.size 38 9 i0 _ 1 Tryz.underlying38 hi0 hz0 hz1 .i64 .i64 n (by rw [hz2]; omega) (by unfold maxLen; omega) (Nat.le_refl _)
      have hb6 : Below w5.heap.size w5 w6 := ⟨hgr6.os, hgr6.tape, hgr6.output, hgr6.size, fun k hk => hgr6.block k hk (fun e => by cases e)⟩
      have HS6 : Hid (SoT w5 w6 vs 0 (.slice (some ⟨w5.heap.size, 0, none⟩) 0 n)) := ⟨hown6, hb6, HT5.out.keep hb6 HT5.out.lt, hgr6.size, HT5.out.lt⟩
      obtain ⟨va, vg, vcap, hvv, hv2, hv3, hv4⟩ := HV5.out.ex
      subst hvv
      obtain ⟨m, hm⟩ : ∃ m, m = vs.length := ⟨_, rfl⟩
      have HMl : Hid _ := hm
      rw [← hm] at hvlen hv3
      rw [← hm]
      clear hsa hvs hgr hb5 hperm hfall hvl hi0 hz0 hz1 hz2 hown6 hgr6 hb6 hv2 hv4 hm
      go_wp2
      clear hmk
      have HTX : Hid (∀ v wx, v ∈ vs → Pw wx → Calls Tryz.prog 51 #[verV v] wx fun e w' => e = .returned (.tuple #[.string (tx (textV v)), .int .i64 0]) ∧ Below wx.heap.size wx w') := fun v wx hv hx => by
        have h := text_ok v wx hx
        rw [textE_yes (vers_may (HPM.out.mem_iff.1 hv))] at h
        exact h
      obtain ⟨wE, hwE⟩ : ∃ x, x = wr := ⟨_, rfl⟩
      go_loopw [9, 44] (fun sv i wq => ∃ j : Nat, j ≤ m ∧ i = .int .i64 j ∧ SoT w5 wq vs j sv) (fun _ i _ => m - (intOf i).toNat)
      case atStart => exact ⟨0, Nat.zero_le _, rfl, HS6.out⟩
      case round =>
        obtain ⟨j, hj, rfl, hSt⟩ := hrel
        have HSt : Hid (SoT w5 wr vs j u9) := hSt
        clear hSt
        by_cases hjl : j < m
        · have hjl' : (j : Int) < (m : Int) := by omega
          have hjv : j < vs.length := by have := HMl.out; omega
          obtain ⟨g, cap, hge, hgc, hgcell⟩ := (HV5.out.keep (SoT.bel HSt.out)).range (by omega)
          simp only [Value.slice.injEq] at hge
          obtain ⟨rfl, _, rfl⟩ := hge
          obtain ⟨v, hv⟩ : ∃ v, v = vs[j] := ⟨_, rfl⟩
          have HVx : Hid (vs[j] = v) := hv.symm
          have hvm : v ∈ vs := by rw [hv]; exact List.getElem_mem _
          have hrg : wr.rangeAt g (j * 6) (encV v) := fun t u ht => hgcell j hjv t u (by rw [← hv]; exact ht)
          have hr7 : Row (wr.alloc (.cells (verC v) 98)) wr.heap.size (verC v) 98 := Row.new _ _ _
          have hS7 := SoT.next HSt.out ((Below.refl _ _).alloc (Nat.le_refl _) (.cells (verC v) 98))
          obtain ⟨w7, hw7⟩ : ∃ z, z = wr.alloc (.cells (verC v) 98) := ⟨_, rfl⟩
          rw [← hw7] at hr7 hS7
          have hw7' := hw7.symm
          have HR7 : Hid (Row w7 wr.heap.size (verC v) 98) := hr7
          have HS7 : Hid (SoT w5 w7 vs j u9) := hS7
          have htx := HTX.out v w7 hvm (SoT.tab HS7.out)
          obtain ⟨t, ht⟩ : ∃ t, t = tx (textV v) := ⟨_, rfl⟩
          have HTt : Hid (tx (textV v) = t) := ht.symm
          rw [← ht] at htx
          clear hgcell hv hr7 hS7 hw7 ht
          go_upto_region 16 with (first | refine wpList_load_mid rfl 98 _ rfl g (j * 6) rfl (encV v) _ hrg Tryz.underlying98 rfl infoVs ?_ | refine wpList_store_new rfl 98 _ _ rfl wr zeroC (verC v) 98 rfl wr.heap.size rfl rfl rfl infoVs rfl (verC_one _) ?_)
          have q0 : w7.cell? ⟨wr.heap.size, 0, none⟩ = some (.int .i64 v.n0) := (Row.cell HR7.out 0).trans rfl
          have q1 : w7.cell? ⟨wr.heap.size, 1, none⟩ = some (.int .i64 v.n1) := (Row.cell HR7.out 1).trans rfl
          have q2 : w7.cell? ⟨wr.heap.size, 2, none⟩ = some (.int .i64 v.n2) := (Row.cell HR7.out 2).trans rfl
          have q3 : w7.cell? ⟨wr.heap.size, 3, none⟩ = some (.int .i64 v.n3) := (Row.cell HR7.out 3).trans rfl
          have q4 : w7.cell? ⟨wr.heap.size, 4, none⟩ = some (.int .i64 v.cnt) := (Row.cell HR7.out 4).trans rfl
          have q5 : w7.cell? ⟨wr.heap.size, 5, none⟩ = some (.string v.tag) := (Row.cell HR7.out 5).trans rfl
          go_wp2_with fail
          clear q0 q1 q2 q3 q4 q5
          refine htx.mono ?_
          rintro e w8 ⟨rfl, hb8⟩
          have h8 := SoT.next HS7.out hb8
          have hlow := h8.low
          have h9 := h8.next ((Below.refl _ _).alloc (Nat.le_refl _) (.cells #[.string t] 9))
          have HS9 : Hid (SoT w5 (w8.alloc (.cells #[.string t] 9)) vs j u9) := h9
          clear htx hb8 h8 h9 hrg hw7'
          go_wp2_with (at_builtin; refine wpList_ap_one rfl (some 56) rfl _ _ rfl w5.heap.size u9 j ((vs.take j).map fun v => Value.string (tx (textV v))) rfl t rfl w8.heap.size rfl (SoT.own HS9.out) rfl hlow (by omega) ?_; intro va wa hoa hga)
          have HSa : Hid (SoT w5 wa vs (j + 1) va) := SoT.more HS9.out hjv (by rw [HVx.out, HTt.out]; exact hoa) hga
          clear hoa hga
          go_roundw
          case rel => exact ⟨j + 1, by omega, by go_num, HSa.out⟩
          case measure => simp [intOf]; omega
        · have hjl' : ¬ (j : Int) < (m : Int) := by omega
          have hjm : vs.take j = vs := List.take_of_length_le (by have := HMl.out; omega)
          have hown := SoT.own HSt.out
          rw [hjm] at hown
          have hRx := HR5.out
          have hBx := SoT.bel HSt.out
          obtain ⟨ra, rg, rcap, hr1, hr2, hr3, hr4⟩ : ∃ (ra : Option Addr) (rg rcap : Nat), u4 = .slice ra (restOf L).length rcap ∧ (0 < (restOf L).length → ra = some ⟨rg, 0, none⟩) ∧ (ra = none → (restOf L).length = 0 ∧ rcap = 0) ∧ ∀ t u, ((restOf L).map Value.string)[t]? = some u → wr.cell? ⟨rg, 0 + t, none⟩ = some u := by
            have hRy := hRx
            obtain ⟨hxl, ⟨rfl, h0⟩ | ⟨g, cap, cur, rfl, _, hrow, _, _, _, _⟩⟩ := hRx
            · refine ⟨none, 0, 0, by rw [h0], fun h => absurd h (by omega), fun _ => ⟨h0, rfl⟩, fun t u ht => ?_⟩
              have := (List.getElem?_eq_some_iff.1 ht).1
              rw [List.length_map] at this
              omega
            · refine ⟨_, g, cap, rfl, fun _ => rfl, (fun h => by cases h), fun t u ht => ?_⟩
              have htl := (List.getElem?_eq_some_iff.1 ht).1
              rw [List.length_map] at htl
              have hgl : g < w5.heap.size := (Array.getElem?_eq_some_iff.1 hrow).1
              rw [Nat.zero_add]
              exact (hBx.cell (p := ⟨g, t, none⟩) hgl).trans ((hRy.cellAt t (by omega)).trans ht)
          subst hr1
          have HOW : Hid (wr.ownsRow w5.heap.size 9 1 u9 j (vs.map fun v => Value.string (tx (textV v)))) := hown
          have hlowr := SoT.low HSt.out
          have HBw : Hid (Below w.heap.size w wr) := HB5.out.trans (hBx.mono HB5.out.size)
          have hb5s := HB5.out.size
          have HFIN : Hid (∀ v' w', w'.ownsRow w5.heap.size 9 1 v' (j + (restOf L).length) ((vs.map fun v => Value.string (tx (textV v))) ++ (restOf L).map Value.string) → wr.grownBy w' u9.ownBlock → SortPost L w (.returned v') w') := fun v' w' h1 h2 => by
            refine ⟨vs, v', rfl, HPM.out, HFA.out, ?_, HBw.out.trans ((below_own h2 hlowr (fun q hq => ((World.ownsRow.lt HOW.out) q hq).1)).mono hb5s)⟩
            have e1 : j + (restOf L).length = L.length := by have := HN.out; have := HMl.out; omega
            rw [e1] at h1
            rw [List.map_append, List.map_map]
            exact World.ownsRow.mono h1 hb5s
          obtain ⟨RP, hRP⟩ : ∃ RP, RP = SortPost L w := ⟨_, rfl⟩
          have HF2 : Hid (∀ v' w', w'.ownsRow w5.heap.size 9 1 v' (j + (restOf L).length) ((vs.map fun v => Value.string (tx (textV v))) ++ (restOf L).map Value.string) → wr.grownBy w' u9.ownBlock → SortPost L w (.returned v') w') := HFIN.out
          have hbyt : (j + (restOf L).length) * 16 ≤ 140737488355328 := by omega
          clear hown hRx hBx hjm hRP
          go_wp2_with (at_builtin; refine wpList_ap_all rfl (some 60) rfl _ _ rfl w5.heap.size u9 j (vs.map fun v => Value.string (tx (textV v))) rfl HOW.out ra rg rcap (restOf L) rfl hr2 hr3 hr4 hlowr hbyt ?_; intro v' w' h1 h2; have HFF : Hid _ := HF2.out v' w' h1 h2; clear h1 h2)
          go_ret
          exact HFF.out
end Go.Proofs.YtdhmlcelofnkgaaGreatDoor
namespace Go.Proofs.YtdhmlcelofnkgaaGreatDoor
open Go.RowKit

/-- The texts that Sort tells. -/
def sortedT (vs : List Ver) (L : List ByteArray) : List ByteArray := vs.map (fun v => tx (textV v)) ++ restOf L
theorem text_of {s : ByteArray} {v : Ver} (h : parseV (vb s) = some v) : tx (textV v) = s := by rw [(parse_back h).2, tx_vb]
theorem vers_texts (L : List ByteArray) : ((versOf L).map (fun v => tx (textV v)) ++ restOf L).Perm L := by
  unfold versOf restOf
  induction L with
  | nil => exact List.Perm.refl _
  | cons s L ih =>
    cases h : parseV (vb s) with
    | none =>
      simp only [List.filterMap_cons, h, List.filter_cons, Option.isNone_none, if_true]
      exact (List.perm_middle).trans (List.Perm.cons s ih)
    | some v =>
      simp only [List.filterMap_cons, h, List.filter_cons, Option.isNone_some, List.map_cons, List.cons_append, text_of h]
      simpa using ih
/-- All that there was. -/
theorem sorted_perm {vs : List Ver} {L : List ByteArray} (h : vs.Perm (versOf L)) : (sortedT vs L).Perm L := by
  unfold sortedT
  exact ((h.map _).append_right _).trans (vers_texts L)
theorem parse_vers {L : List ByteArray} {v : Ver} (h : v ∈ versOf L) : parseV (textV v) = some v := parse_text ((mayV_iff v).1 (vers_may h))
theorem parse_rest_none {L : List ByteArray} {s : ByteArray} (h : s ∈ restOf L) : parseV (vb s) = none := by
  unfold restOf at h
  have := (List.mem_filter.1 h).2
  simpa using this
/-- What is a version's text among them. -/
theorem sorted_parse {vs : List Ver} {L : List ByteArray} (h : vs.Perm (versOf L)) (i : Nat) (hi : i < (sortedT vs L).length) : parseV (vb ((sortedT vs L)[i])) = vs[i]? := by
  unfold sortedT at hi ⊢
  by_cases hv : i < vs.length
  · rw [List.getElem_append_left (by rw [List.length_map]; exact hv), List.getElem_map, vb_tx, List.getElem?_eq_getElem hv]
    exact parse_vers (h.mem_iff.1 (List.getElem_mem hv))
  · rw [List.getElem_append_right (by rw [List.length_map]; omega), List.getElem?_eq_none (by omega)]
    exact parse_rest_none (List.getElem_mem _)
/-- Two that fall and have the same are one. -/
theorem falls_one {a b : List Ver} (h : a.Perm b) (ha : Falls a) (hb : Falls b) : a = b :=
  List.Perm.eq_of_pairwise (le := fun x y => 0 ≤ cmpV x y) (fun x y _ _ h1 h2 => by
    have := preV.anti x y
    exact (cmpV_zero x y).1 (by omega)) ha hb h
theorem filterMap_back {α β : Type} (f : α → β) (g : β → Option α) (l : List α) (h : ∀ x ∈ l, g (f x) = some x) : (l.map f).filterMap g = l := by
  induction l with
  | nil => rfl
  | cons x l ih =>
    rw [List.map_cons, List.filterMap_cons, h x (List.mem_cons_self ..)]
    show x :: _ = x :: l
    rw [ih (fun y hy => h y (List.mem_cons_of_mem _ hy))]
theorem versOf_sorted {vs : List Ver} {L : List ByteArray} (h : vs.Perm (versOf L)) : versOf (sortedT vs L) = vs := by
  unfold versOf sortedT
  rw [List.filterMap_append]
  have e1 : (vs.map fun v => tx (textV v)).filterMap (fun s => parseV (vb s)) = vs := filterMap_back _ _ vs fun v hv => by
    rw [vb_tx]
    exact parse_vers (h.mem_iff.1 hv)
  have e2 : (restOf L).filterMap (fun s => parseV (vb s)) = [] := by
    rw [List.filterMap_eq_nil_iff]
    exact fun s hs => parse_rest_none hs
  rw [e1, e2, List.append_nil]
theorem restOf_sorted {vs : List Ver} {L : List ByteArray} (h : vs.Perm (versOf L)) : restOf (sortedT vs L) = restOf L := by
  have e1 : (vs.map fun v => tx (textV v)).filter (fun s => (parseV (vb s)).isNone) = [] := by
    rw [List.filter_eq_nil_iff]
    intro s hs
    obtain ⟨v, hv, rfl⟩ := List.mem_map.1 hs
    rw [vb_tx, parse_vers (h.mem_iff.1 hv)]
    simp
  have e2 : (restOf L).filter (fun s => (parseV (vb s)).isNone) = restOf L := by
    rw [List.filter_eq_self]
    intro s hs
    rw [parse_rest_none hs]
    rfl
  unfold sortedT
  show List.filter _ _ = _
  rw [List.filter_append, e1, e2, List.nil_append]
/-- Sorted once. -/
theorem sorted_once {vs us : List Ver} {L : List ByteArray} (h : vs.Perm (versOf L)) (hf : Falls vs) (hu : us.Perm (versOf (sortedT vs L))) (huf : Falls us) : sortedT us (sortedT vs L) = sortedT vs L := by
  rw [versOf_sorted h] at hu
  have e := falls_one hu huf hf
  subst e
  show us.map _ ++ restOf (sortedT us L) = us.map _ ++ restOf L
  rw [restOf_sorted h]
end Go.Proofs.YtdhmlcelofnkgaaGreatDoor
