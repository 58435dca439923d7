/- My own work: slices.SortFunc at versions, the greatest first. My own work: Sort's first loop: versions and what is none, each in a row of its own. My own work: the walk of Sort, up to the sorting. My own work: what is sorted: all that there was, the greatest first, and sorted once. My own work: few, Versions, and packages in memory of their own. My own work: packages in memory of their own. My own work: each package counted once; packages told twice, needs told twice. My own work: what the law VersionSorts asks: texts in a block, counts, Sort of a copy. My own work: the document's Sort: insertion, the mathematics, and rows of texts of one's own. My own work: the document's Sort by contract. My own work: Versions: what is told; the document's own. My own work: the document's own Same, of packages that are the same. My own work: how long an index's text may be. My own work: the program's Text. My own work: the document's own Text. My own work: the law IndexTells. -/
import Derived.Test.YtkbhckjpmgkgjaaGreatDoorVQ
import Derived.Test.YtkbhckjpmgkgjaaGreatDoorShV
import Derived.Test.YtkbhckjpmgkgjaaGreatDoorShW
import Derived.Test.YtkbhckjpmgkgjaaGreatDoorVAp
import Derived.Test.YtkbhckjpmgkgjaaGreatDoorV11
import Derived.Laws.MakeOwn
import Derived.Deep.MidRow
import Derived.Deep.Onto
import Derived.OwnWalk
import Derived.Shelf.SlSortCmp.NoneTotal
import Derived.Test.YtkbhckjpmgkgjaaGreatDoorXC
import Derived.Great.BuildSlice
import Derived.Test.YtkbhckjpmgkgjaaGreatDoorVO
import Derived.BigQuiet
import Derived.Test.YtkbhckjpmgkgjaaGreatDoorR5
import Derived.Test.YtkbhckjpmgkgjaaGreatDoorPermA
import Derived.Test.YtkbhckjpmgkgjaaGreatDoorXD
namespace Go.Proofs.YtkbhckjpmgkgjaaGreatDoor
open Go.RowKit Go.Shelf Go.Lib Go.Sort

abbrev encV (v : Ver) : List Value := [.int .i64 v.n0, .int .i64 v.n1, .int .i64 v.n2, .int .i64 v.n3, .int .i64 v.cnt, .string v.tag]
instance : Inhabited Ver := ⟨zeroV⟩
/-- The greatest first. -/
def downV (a b : Ver) : Int := cmpV b a
theorem ltDown (x y : Ver) : ltOf downV x y = decide (cmpV y x < 0) := rfl
theorem swoV : SWO (ltOf downV) where
  irrefl x := by rw [ltDown, (cmpV_zero x x).2 rfl]; rfl
  trans x y z h1 h2 := by
    rw [ltDown, decide_eq_true_eq] at *
    have h3 := preV.tr z y x (by omega) (by omega)
    by_cases e : cmpV z x = 0
    · have e1 := (cmpV_zero z x).1 e
      subst e1
      have := preV.anti y z
      omega
    · omega
  ntrans x y z h1 h2 := by
    rw [ltDown, decide_eq_false_iff_not] at *
    have a1 := preV.anti y x
    have a2 := preV.anti z y
    have a3 := preV.anti z x
    have := preV.tr x y z (by omega) (by omega)
    omega
set_option maxRecDepth 20000 in
set_option maxHeartbeats 2000000 in
theorem closure_ok (a b : Ver) (W : World) : Calls Tryz.prog 60 #[.agg (verC a), .agg (verC b)] W fun e w' => e = .returned (.int .i64 (downV a b)) ∧ ∃ q os, w' = grow (W.drewN q) os := by
  have hA : Row (twoW W a b) W.heap.size (verC a) 112 := (Row.new W (verC a) 112).alloc _
  have hB : Row (twoW W a b) (W.heap.size + 1) (verC b) 112 := by
    have h := Row.new (W.alloc (.cells (verC a) 112)) (verC b) 112
    rw [World.size_alloc] at h
    exact h
  have HG : Hid (∃ q os, twoW (twoW W a b) b a = grow (W.drewN q) os) := ⟨0, _, by unfold twoW; rw [alloc_eq_grow, alloc_eq_grow, alloc_eq_grow, alloc_eq_grow, grow_grow, grow_grow, grow_grow]; rfl⟩
  obtain ⟨w2, hw2⟩ : ∃ x, x = twoW W a b := ⟨_, rfl⟩
  have hw2' := hw2.symm
  rw [← hw2] at hA hB HG
  have hc := compare_ok b a w2
  unfold downV
  generalize cmpV b a = c at *
  clear hw2
  go_enter Tryz.func60, Tryz.ntmps60
  go_wp2_with (first | (go_at_call 61; refine hc.mono ?_; rintro e w9 ⟨rfl, hw9⟩; rw [hw9]; clear hw9) | refine wpList_load_row rfl 112 _ rfl W.heap.size rfl 112 (verC a) (0, 0) _ hA Tryz.underlying112 rfl infoVs ?_ | refine wpList_load_row rfl 112 _ rfl (W.heap.size + 1) rfl 112 (verC b) (0, 0) _ hB Tryz.underlying112 rfl infoVs ?_)
  go_ret
  exact ⟨rfl, HG.out⟩
theorem cmpLaysV (blk off size : Nat) (w : World) : CmpLays Tryz.prog 60 #[] encV 6 downV blk off size w :=
  fun _ _ _ _ x y => closure_ok x y _
theorem sortV_ok (blk cap : Nat) (d : Array Ver) (w : World) (hH : HoldsK encV 6 w blk 0 d) (hblk : blk < w.heap.size) (hsz : d.size < 4611686018427387904) :
    Calls Tryz.prog 59 #[.slice (some ⟨blk, 0, none⟩) d.size cap, .func (.func 60) #[] #[]] w fun e w' => e = .returned (.tuple #[]) ∧ ∃ d' n os, PermIn 0 d.size d d' ∧ SortedIn (ltOf downV) 0 d.size d' ∧ w' = sortWorldK encV 6 w blk 0 n d' os :=
  AnyQ.slices_SortFunc Tryz.laysSf6 6 Tryz.isAgg112 Tryz.sizeOf112 encV (fun _ => rfl) (fun x u hu => by
    simp only [encV, List.mem_cons, List.not_mem_nil, or_false] at hu
    rcases hu with rfl | rfl | rfl | rfl | rfl | rfl <;> rfl) downV swoV 60 #[] blk 0 cap d w (enters_of Tryz.func60 (by kernel_rfl) rfl) (cmpLaysV blk 0 d.size w) hH hblk hsz
end Go.Proofs.YtkbhckjpmgkgjaaGreatDoor
namespace Go.Proofs.YtkbhckjpmgkgjaaGreatDoor
open Go.RowKit

theorem infoV : (Tryz.prog.info? 112).map (fun i => (i.zero, i.size, i.bytes)) = some (some (.agg zeroC), 6, 56) := by kernel_rfl
/-- Cells of versions, one behind another. -/
def flatV (L : List Ver) : List Value := (L.map encV).flatten
theorem flatV_len (L : List Ver) : (flatV L).length = L.length * 6 := by
  induction L with
  | nil => rfl
  | cons v L ih =>
    have h6 : (encV v).length = 6 := rfl
    show (encV v ++ flatV L).length = (L.length + 1) * 6
    rw [List.length_append, ih, h6]
    omega
theorem flatV_snoc (L : List Ver) (v : Ver) : flatV (L ++ [v]) = flatV L ++ encV v := by
  unfold flatV
  rw [List.map_append, List.flatten_append]
  simp
/-- One version is appended to a row of one's own. -/
theorem wpList_ap_ver {w w1 : World} {ops : Array Oper} {rest : List Oper} {o : Oper} {a : Act} {Q : Exit → Act → World → Prop} (hgd : o.guard = none) (dd : Option Tmp) (hdd : o.dst = dd) (s x : Operand) (ho : o.op = .call { callee := .builtin .append, args := #[s, x], argTypes := #[121, 121] }) (B : Nat) (v : Value) (n : Nat) (xs : List Value) (hs : a.eval s = v) (t : Ver) (hw : w1 = w.alloc (.cells (verC t) 112)) (g : Nat) (hg : g = w.heap.size) (hown : w1.ownsRow B 112 6 v n xs) (hx : a.eval x = .slice (some ⟨g, 0, none⟩) 1 1) (hB : B ≤ w.heap.size) (hby : (n + 1) * 56 ≤ 140737488355328)
    (h : ∀ v' w', w'.ownsRow B 112 6 v' (n + 1) (xs ++ encV t) → w1.grownBy w' v.ownBlock → wpList Tryz.prog ops Q rest (a.put dd v') w') : wpList Tryz.prog ops Q (o :: rest) a w1 := by
  subst hw hg
  refine wpList_plain hgd fun K hK => wp_append_any dd hdd s x 121 112 (.agg zeroC) 6 56 Tryz.underlying121 infoV rfl (by decide) ho B v n xs hs hown (some ⟨w.heap.size, 0, none⟩) w.heap.size 0 1 1 (encV t) rfl hx (fun _ => rfl) (fun j u hj => ?_) (fun u hu => ?_) (fun h => nomatch h) (by unfold maxLen; omega) hby (by simp; omega) (fun v' w' h1 h2 _ => hK _ _ (h v' w' h1 h2))
  · rw [Nat.zero_add, Row.cell (Row.new w (verC t) 112) j]
    show (encV t).toArray[j]? = _
    rw [List.getElem?_toArray]
    exact hj
  · simp only [encV, List.mem_cons, List.not_mem_nil, or_false] at hu
    rcases hu with rfl | rfl | rfl | rfl | rfl | rfl <;> rfl
/-- Texts that lie somewhere below. -/
structure TxAt (w : World) (a : Option Addr) (L : List ByteArray) (c : Nat) : Prop where
  ex : ∃ b off, (0 < L.length → a = some ⟨b, off, none⟩) ∧ ∀ i (h : i < L.length), w.cell? ⟨b, off + i, none⟩ = some (.string L[i])
  le : L.length ≤ c
  each : ∀ x ∈ L, x.size ≤ 140737488355328
/-- Which are versions' texts, and which are not. -/
def versOf (L : List ByteArray) : List Ver := L.filterMap fun s => parseV (vb s)
def restOf (L : List ByteArray) : List ByteArray := L.filter fun s => (parseV (vb s)).isNone
theorem versOf_snoc (L : List ByteArray) (s : ByteArray) {v : Ver} (h : parseV (vb s) = some v) : versOf (L ++ [s]) = versOf L ++ [v] ∧ restOf (L ++ [s]) = restOf L := by
  unfold versOf restOf
  rw [List.filterMap_append, List.filter_append]
  simp [h]
theorem restOf_snoc (L : List ByteArray) (s : ByteArray) (h : parseV (vb s) = none) : versOf (L ++ [s]) = versOf L ∧ restOf (L ++ [s]) = restOf L ++ [s] := by
  unfold versOf restOf
  rw [List.filterMap_append, List.filter_append]
  simp [h]
theorem versOf_len (L : List ByteArray) : (versOf L).length + (restOf L).length = L.length := by
  unfold versOf restOf
  induction L with
  | nil => rfl
  | cons s L ih =>
    cases h : parseV (vb s) with
    | none => simp only [List.filterMap_cons, h, List.filter_cons, Option.isNone_none, if_true, List.length_cons]; omega
    | some v => simp only [List.filterMap_cons, h, List.filter_cons, Option.isNone_some, List.length_cons]; simp; omega
/-- What holds behind k texts. -/
structure SoR (w wr : World) (L : List ByteArray) (k : Nat) (vv ov : Value) : Prop where
  vers : wr.ownsRow w.heap.size 112 6 vv (versOf (L.take k)).length (flatV (versOf (L.take k)))
  rest : wr.ownsRow w.heap.size 9 1 ov (restOf (L.take k)).length ((restOf (L.take k)).map Value.string)
  bel : Below w.heap.size w wr
  tab : Pw wr
  glob : 2 < w.heap.size
theorem SoR.next {w wr w' : World} {L : List ByteArray} {k : Nat} {vv ov : Value} (h : SoR w wr L k vv ov) (hb : Below wr.heap.size wr w') : SoR w w' L k vv ov :=
  ⟨own_below h.vers hb, own_below h.rest hb, h.bel.trans (hb.mono h.bel.size), h.tab.keep hb h.tab.lt, h.glob⟩
theorem own_apart {w : World} {B n m : Nat} {v v' : Value} {xs ys : List Value} (h : w.ownsRow B 112 6 v n xs) (h' : w.ownsRow B 9 1 v' m ys) : v.ownBlock = none ∨ v.ownBlock ≠ v'.ownBlock := by
  cases e : v.ownBlock with
  | none => exact Or.inl rfl
  | some k =>
    refine Or.inr fun e' => ?_
    obtain ⟨C, hC⟩ := ownsRow_row h k e
    obtain ⟨D, hD⟩ := ownsRow_row h' k e'.symm
    rw [hC] at hD
    simp at hD
theorem below_own {w w' : World} {B : Nat} {row : Option Nat} (hg : w.grownBy w' row) (hB : B ≤ w.heap.size) (hr : ∀ k, row = some k → B ≤ k) : Below B w w' :=
  ⟨hg.os, hg.tape, hg.output, hg.size, fun k hk => hg.block k (by omega) fun e => by have := hr k e.symm; omega⟩
theorem SoR.ver {w w1 w' : World} {L : List ByteArray} {k : Nat} {vv ov vv' : Value} {v : Ver} (h : SoR w w1 L k vv ov) (hk : k < L.length) (hp : parseV (vb L[k]) = some v) (ho : w'.ownsRow w.heap.size 112 6 vv' ((versOf (L.take k)).length + 1) (flatV (versOf (L.take k)) ++ encV v)) (hg : w1.grownBy w' vv.ownBlock) : SoR w w' L (k + 1) vv' ov := by
  have e : L.take (k + 1) = L.take k ++ [L[k]] := by rw [List.take_add_one, List.getElem?_eq_getElem hk]; rfl
  obtain ⟨e1, e2⟩ := versOf_snoc (L.take k) L[k] hp
  have hb : Below w.heap.size w1 w' := below_own hg h.bel.size (fun j hj => (h.vers.lt j hj).1)
  refine ⟨?_, ?_, h.bel.trans hb, h.tab.keep hb h.glob, h.glob⟩
  · rw [e, e1, flatV_snoc, List.length_append]
    exact ho
  · rw [e, e2]
    exact h.rest.kept hg (by
      rcases own_apart h.vers h.rest with h1 | h1
      · cases e3 : ov.ownBlock with
        | none => exact Or.inl rfl
        | some j => exact Or.inr (by rw [h1]; simp)
      · exact Or.inr (Ne.symm h1))
theorem SoR.none {w w1 w' : World} {L : List ByteArray} {k : Nat} {vv ov ov' : Value} (h : SoR w w1 L k vv ov) (hk : k < L.length) (hp : parseV (vb L[k]) = none) (ho : w'.ownsRow w.heap.size 9 1 ov' ((restOf (L.take k)).length + 1) ((restOf (L.take k)).map Value.string ++ [.string L[k]])) (hg : w1.grownBy w' ov.ownBlock) : SoR w w' L (k + 1) vv ov' := by
  have e : L.take (k + 1) = L.take k ++ [L[k]] := by rw [List.take_add_one, List.getElem?_eq_getElem hk]; rfl
  obtain ⟨e1, e2⟩ := restOf_snoc (L.take k) L[k] hp
  have hb : Below w.heap.size w1 w' := below_own hg h.bel.size (fun j hj => (h.rest.lt j hj).1)
  refine ⟨?_, ?_, h.bel.trans hb, h.tab.keep hb h.glob, h.glob⟩
  · rw [e, e1]
    exact h.vers.kept hg (own_apart h.vers h.rest)
  · rw [e, e2, List.map_append, List.length_append]
    exact ho
end Go.Proofs.YtkbhckjpmgkgjaaGreatDoor
namespace Go.Proofs.YtkbhckjpmgkgjaaGreatDoor
open Go.RowKit Go.Sort

theorem flatV_at (L : List Ver) (t : Nat) (h : t < L.length * 6) : (flatV L)[t]? = (encV (L[t / 6]'(by omega)))[t % 6]? := by
  induction L generalizing t with
  | nil => simp at h
  | cons v L ih =>
    have h6 : (encV v).length = 6 := rfl
    show (encV v ++ flatV L)[t]? = _
    by_cases ht : t < 6
    · rw [List.getElem?_append_left (by rw [h6]; exact ht)]
      have e1 : t / 6 = 0 := by omega
      have e2 : t % 6 = t := by omega
      simp only [e1, e2]
      rfl
    · rw [List.getElem?_append_right (by rw [h6]; omega), h6, ih (t - 6) (by rw [List.length_cons] at h; omega)]
      have e1 : t / 6 = (t - 6) / 6 + 1 := by omega
      have e2 : t % 6 = (t - 6) % 6 := by omega
      simp only [e1, e2, List.getElem_cons_succ]
theorem holds_own {w : World} {B g cap : Nat} {L : List Ver} (h : w.ownsRow B 112 6 (.slice (some ⟨g, 0, none⟩) L.length cap) L.length (flatV L)) : HoldsK encV 6 w g 0 L.toArray := by
  intro j hj
  rw [size_flatK, List.size_toArray] at hj
  rw [Nat.zero_add, get_flatK _ _ _ _ (by rw [List.size_toArray]; exact hj)]
  refine ⟨?_, h.frozenAt j⟩
  rw [h.cellAt j hj, flatV_at L j hj]
  have hl : j / 6 < L.length := by omega
  have hm : j % 6 < 6 := Nat.mod_lt _ (by decide)
  rw [getElem!_pos L.toArray (j / 6) (by rw [List.size_toArray]; exact hl)]
  simp only [List.getElem_toArray]
  rw [getElem!_pos (encV L[j / 6]) (j % 6) hm, List.getElem?_eq_getElem hm]
  rfl
theorem sort_other {w : World} {blk off m j : Nat} {dk : Array Ver} {os : Array Obj} (hj : j ≠ blk) (hl : j < w.heap.size) : (sortWorldK encV 6 w blk off m dk os).heap[j]? = w.heap[j]? := by
  unfold sortWorldK grow putRowK putRow mapBlock
  show ((w.heap.modify blk _) ++ os)[j]? = _
  rw [Array.getElem?_append_left (by simpa using hl), Array.getElem?_modify, if_neg (Ne.symm hj)]
theorem sort_grown {w : World} {blk off m : Nat} {dk : Array Ver} {os : Array Obj} : w.grownBy (sortWorldK encV 6 w blk off m dk os) (some blk) := by
  refine ⟨rfl, rfl, rfl, ?_, fun k hk hne => sort_other (fun e => hne (by rw [e])) hk⟩
  unfold sortWorldK grow putRowK putRow mapBlock
  show w.heap.size ≤ ((w.heap.modify blk _) ++ os).size
  rw [Array.size_append, Array.size_modify]
  show w.heap.size ≤ w.heap.size + _
  omega
/-- The greatest first. -/
def Falls (L : List Ver) : Prop := L.Pairwise fun a b => 0 ≤ cmpV a b
/-- Versions in a row that is only read from now on. -/
structure VsAt (w : World) (vv : Value) (L : List Ver) (B : Nat) : Prop where
  ex : ∃ (a : Option Addr) (g cap : Nat), vv = .slice a L.length cap ∧ (0 < L.length → a = some ⟨g, 0, none⟩ ∧ g < B) ∧ L.length ≤ cap ∧ ∀ t u, t < L.length * 6 → (flatV L)[t]? = some u → w.cell? ⟨g, t, none⟩ = some u
theorem VsAt.keep {w w' : World} {vv : Value} {L : List Ver} {B : Nat} (h : VsAt w vv L B) (hb : Below B w w') : VsAt w' vv L B := by
  obtain ⟨a, g, cap, h1, h2, h3, h4⟩ := h.ex
  refine ⟨a, g, cap, h1, h2, h3, fun t u ht hu => ?_⟩
  have hg := (h2 (by omega)).2
  exact (hb.cell (p := ⟨g, t, none⟩) hg).trans (h4 t u ht hu)
theorem extract_all {α : Type} (d : Array α) : (d.extract 0 d.size).toList = d.toList := by simp
/-- slices.SortFunc on versions in a row of one's own. -/
theorem sort_any {w : World} {B : Nat} {vv : Value} {L : List Ver} (h : w.ownsRow B 112 6 vv L.length (flatV L)) (hl : L.length ≤ 1000) : Calls Tryz.prog 59 #[vv, .func (.func 60) #[] #[]] w fun e w' => e = .returned (.tuple #[]) ∧ ∃ vs : List Ver, vs.Perm L ∧ Falls vs ∧ VsAt w' vv vs w'.heap.size ∧ w.grownBy w' vv.ownBlock := by
  by_cases h0 : L.length = 0
  · have hL : L = [] := List.eq_nil_of_length_eq_zero h0
    subst hL
    obtain ⟨a, cap, hvv⟩ : ∃ a cap, vv = .slice a 0 cap := by
      obtain ⟨_, ⟨rfl, _⟩ | ⟨g, cap, cur, rfl, _⟩⟩ := h
      · exact ⟨_, _, rfl⟩
      · exact ⟨_, _, rfl⟩
    subst hvv
    refine (AnyF.slices_SortFunc_none Tryz.laysSf6 a cap (.func (.func 60) #[] #[]) w).mono ?_
    rintro e w' ⟨rfl, rfl⟩
    exact ⟨rfl, [], List.Perm.refl _, List.Pairwise.nil, ⟨a, 0, cap, rfl, fun h => absurd h (by simp), Nat.zero_le _, fun t u ht => absurd ht (by simp)⟩, ⟨rfl, rfl, rfl, Nat.le_refl _, fun _ _ _ => rfl⟩⟩
  · have h' := h
    obtain ⟨_, ⟨_, h1⟩ | ⟨g, cap, cur, rfl, hBg, hrow, hnc, _, _, _⟩⟩ := h
    · exact absurd h1 h0
    have hlt : g < w.heap.size := (Array.getElem?_eq_some_iff.1 hrow).1
    have hH := holds_own h'
    have H := sortV_ok g cap L.toArray w hH hlt (by rw [List.size_toArray]; omega)
    rw [List.size_toArray] at H
    refine H.mono ?_
    rintro e w' ⟨rfl, d', m, os, hP, hS, rfl⟩
    obtain ⟨p1, _, p3⟩ := hP
    have p1 : d'.size = L.length := by simpa using p1
    have hperm : d'.toList.Perm L := by
      have e1 : (d'.extract 0 L.length).toList = d'.toList := by rw [← p1]; exact extract_all d'
      have e2 : (L.toArray.extract 0 L.length).toList = L := by
        have := extract_all L.toArray
        rw [List.size_toArray] at this
        rw [this]
      rw [e1, e2] at p3
      exact p3
    have hH2 := holdsK_sortWorldK encV 6 w g 0 m L.toArray d' os hlt hH (by rw [List.size_toArray]; exact p1)
    refine ⟨rfl, d'.toList, hperm, ?_, ⟨some ⟨g, 0, none⟩, g, cap, by rw [hperm.length_eq], fun _ => ⟨rfl, lt_sortWorldK encV 6 w g 0 m d' os hlt⟩, by rw [hperm.length_eq]; exact hnc, fun t u ht hu => ?_⟩, sort_grown⟩
    · unfold Falls
      rw [List.pairwise_iff_getElem]
      intro i j hi hj hij
      have hi' : i < d'.size := by simpa using hi
      have hj' : j < d'.size := by simpa using hj
      have h5 := hS i j (Nat.zero_le _) hij (by omega)
      rw [getElem!_pos d' i hi', getElem!_pos d' j hj', ltDown, decide_eq_false_iff_not] at h5
      simp only [Array.getElem_toList]
      omega
    · rw [Array.length_toList] at ht
      have h5 := (hH2 t (by rw [size_flatK]; exact ht)).1
      rw [Nat.zero_add, get_flatK _ _ _ _ ht] at h5
      rw [flatV_at d'.toList t (by rw [Array.length_toList]; exact ht)] at hu
      rw [h5]
      have hl6 : t / 6 < d'.size := by omega
      have hm : t % 6 < 6 := Nat.mod_lt _ (by decide)
      rw [getElem!_pos d' (t / 6) hl6, getElem!_pos (encV d'[t / 6]) (t % 6) hm]
      simp only [Array.getElem_toList] at hu
      rw [List.getElem?_eq_getElem hm] at hu
      exact hu
/-- All texts of a row are appended to a row of one's own. -/
theorem wpList_ap_all {w : World} {ops : Array Oper} {rest : List Oper} {o : Oper} {a : Act} {Q : Exit → Act → World → Prop} (hgd : o.guard = none) (dd : Option Tmp) (hdd : o.dst = dd) (s x : Operand) (ho : o.op = .call { callee := .builtin .append, args := #[s, x], argTypes := #[38, 38] }) (B : Nat) (v : Value) (n : Nat) (xs : List Value) (hs : a.eval s = v) (hown : w.ownsRow B 9 1 v n xs) (ra : Option Addr) (rg cap : Nat) (X : List ByteArray) (hx : a.eval x = .slice ra X.length cap) (hat : 0 < X.length → ra = some ⟨rg, 0, none⟩) (hnone : ra = none → X.length = 0 ∧ cap = 0) (hcell : ∀ t u, (X.map Value.string)[t]? = some u → w.cell? ⟨rg, 0 + t, none⟩ = some u) (hB : B ≤ w.heap.size) (hby : (n + X.length) * 16 ≤ 140737488355328)
    (h : ∀ v' w', w'.ownsRow B 9 1 v' (n + X.length) (xs ++ X.map Value.string) → w.grownBy w' v.ownBlock → wpList Tryz.prog ops Q rest (a.put dd v') w') : wpList Tryz.prog ops Q (o :: rest) a w :=
  wpList_plain hgd fun K hK => wp_append_any dd hdd s x 38 9 (.string ⟨#[]⟩) 1 16 Tryz.underlying38 info9 rfl (by decide) ho B v n xs hs hown ra rg 0 X.length cap (X.map Value.string) (by simp) hx hat hcell (fun u hu => by obtain ⟨y, _, rfl⟩ := List.mem_map.1 hu; rfl) hnone (by unfold maxLen; omega) hby hB (fun v' w' h1 h2 _ => hK _ _ (h v' w' h1 h2))
/-- What Sort tells. -/
def SortPost (L : List ByteArray) (w : World) (e : Ending) (w' : World) : Prop :=
  ∃ (vs : List Ver) (rv : Value), e = .returned rv ∧ vs.Perm (versOf L) ∧ Falls vs ∧ w'.ownsRow w.heap.size 9 1 rv L.length ((vs.map (fun v => tx (textV v)) ++ restOf L).map Value.string) ∧ Below w.heap.size w w'
/-- What holds while the texts are told. -/
structure SoT (w5 wr : World) (vs : List Ver) (k : Nat) (sv : Value) : Prop where
  own : wr.ownsRow w5.heap.size 9 1 sv k ((vs.take k).map fun v => Value.string (tx (textV v)))
  bel : Below w5.heap.size w5 wr
  tab : Pw wr
  low : w5.heap.size ≤ wr.heap.size
  glob : 2 < w5.heap.size
theorem SoT.next {w5 wr w' : World} {vs : List Ver} {k : Nat} {sv : Value} (h : SoT w5 wr vs k sv) (hb : Below wr.heap.size wr w') : SoT w5 w' vs k sv :=
  ⟨own_below h.own hb, h.bel.trans (hb.mono h.low), h.tab.keep hb h.tab.lt, Nat.le_trans h.low hb.size, h.glob⟩
theorem SoT.more {w5 w1 w' : World} {vs : List Ver} {k : Nat} {sv sv' : Value} (h : SoT w5 w1 vs k sv) (hk : k < vs.length) (ho : w'.ownsRow w5.heap.size 9 1 sv' (k + 1) (((vs.take k).map fun v => Value.string (tx (textV v))) ++ [.string (tx (textV vs[k]))])) (hg : w1.grownBy w' sv.ownBlock) : SoT w5 w' vs (k + 1) sv' := by
  have hb : Below w5.heap.size w1 w' := below_own hg h.low (fun j hj => (h.own.lt j hj).1)
  refine ⟨?_, h.bel.trans hb, h.tab.keep hb h.glob, Nat.le_trans h.low hg.size, h.glob⟩
  rw [List.take_add_one, List.getElem?_eq_getElem hk, List.map_append]
  exact ho
theorem parse_may {s : By} {v : Ver} (h : parseV s = some v) : mayV v = true := (mayV_iff v).2 (parse_back h).1
theorem vers_may {L : List ByteArray} {v : Ver} (h : v ∈ versOf L) : mayV v = true := by
  unfold versOf at h
  obtain ⟨s, _, hs⟩ := List.mem_filterMap.1 h
  exact parse_may hs
theorem VsAt.range {w : World} {vv : Value} {L : List Ver} {B : Nat} (h : VsAt w vv L B) (hl : 0 < L.length) : ∃ g cap, vv = .slice (some ⟨g, 0, none⟩) L.length cap ∧ L.length ≤ cap ∧ ∀ k (hk : k < L.length), ∀ j u, (encV L[k])[j]? = some u → w.cell? ⟨g, k * 6 + j, none⟩ = some u := by
  obtain ⟨a, g, cap, h1, h2, h3, h4⟩ := h.ex
  refine ⟨g, cap, by rw [h1, (h2 hl).1], h3, fun k hk j u hj => ?_⟩
  have hj6 : j < 6 := (List.getElem?_eq_some_iff.1 hj).1
  have hlt : k * 6 + j < L.length * 6 := by omega
  refine h4 (k * 6 + j) u hlt ?_
  rw [flatV_at L (k * 6 + j) hlt]
  have e1 : (k * 6 + j) / 6 = k := by omega
  have e2 : (k * 6 + j) % 6 = j := by omega
  simp only [e1, e2]
  exact hj
set_option maxRecDepth 20000 in
set_option maxHeartbeats 16000000 in
theorem sort_ok (L : List ByteArray) (la : Option Addr) (lc : Nat) (w : World) (hL : TxAt w la L lc) (hn : L.length ≤ 1000) (hT : Pw w) : Calls Tryz.prog 33 #[.slice la L.length lc] w (SortPost L w) := by
  obtain ⟨b, off, ha, hcells⟩ := hL.ex
  have hbl : 0 < L.length → b < w.heap.size := fun h => World.block_lt_of_cell? w _ (hcells 0 h)
  have HCL : Hid (∀ wx, Below w.heap.size w wx → ∀ i (h : i < L.length), wx.cell? ⟨b, off + i, none⟩ = some (.string L[i])) := fun wx hx i h => (hx.cell (p := ⟨b, off + i, none⟩) (hbl (by omega))).trans (hcells i h)
  have HA : Hid _ := ha
  have HE : Hid _ := hL.each
  have hlc := hL.le
  obtain ⟨n, hnl⟩ : ∃ n, n = L.length := ⟨_, rfl⟩
  have HN : Hid _ := hnl
  rw [← hnl] at hlc hn
  rw [← hnl]
  have HS0 : Hid (SoR w w L 0 (.slice none 0 0) (.slice none 0 0)) := ⟨World.ownsRow_nil _ _ _ _, World.ownsRow_nil _ _ _ _, Below.refl _ _, hT, hT.lt⟩
  have HPA : Hid (∀ s wx, s ∈ L → Calls Tryz.prog 54 #[.string s] wx fun e w' => e = .returned (parseE s) ∧ Below wx.heap.size wx w') := fun s wx hs => parse_ok s wx (HE.out s hs)
  have HCO : Hid (∀ s wx, s ∈ L → Calls Tryz.prog 58 #[.string s] wx fun e w' => e = .returned (.string s) ∧ Below wx.heap.size wx w') := fun s wx hs => clone_ok s wx (HE.out s hs)
  clear ha hcells hbl hL hnl hT
  go_enter Tryz.func33, Tryz.ntmps33
  go_wp2
  go_loopw [3, 4, 16] (fun vv ov i wr => ∃ k : Nat, k ≤ n ∧ i = .int .i64 k ∧ SoR w wr L k vv ov) (fun _ _ i _ => n - (intOf i).toNat)
  case atStart => exact ⟨0, Nat.zero_le _, rfl, HS0.out⟩
  case round =>
    obtain ⟨k, hk, rfl, hS⟩ := hrel
    have HS : Hid (SoR w wr L k u3 u4) := hS
    clear hS
    by_cases hlt : k < n
    · have hkl : k < L.length := by have := HN.out; omega
      have hlt' : (k : Int) < (n : Int) := by omega
      obtain rfl := HA.out (by omega)
      have hcell := HCL.out wr (SoR.bel HS.out) k hkl
      obtain ⟨x, hx⟩ : ∃ x, x = L[k] := ⟨_, rfl⟩
      have HX : Hid (L[k] = x) := hx.symm
      have hxm : x ∈ L := by rw [hx]; exact List.getElem_mem _
      rw [← hx] at hcell
      have hp := HPA.out x wr hxm
      have hlv : (versOf (L.take k)).length ≤ 1000 ∧ (restOf (L.take k)).length ≤ 1000 := by
        have := versOf_len (L.take k)
        rw [List.length_take] at this
        omega
      clear hx
      cases hpv : parseV (vb x) with
      | some v =>
        rw [parseE_yes hpv] at hp
        have HPV : Hid (parseV (vb x) = some v) := hpv
        clear hpv
        go_wp2_with fail
        refine hp.mono ?_
        rintro e w3 ⟨rfl, hb3⟩
        have h3 := SoR.next HS.out hb3
        have h4 := h3.next ((Below.refl _ _).alloc (Nat.le_refl _) (.cells (verC v) 112))
        have hr4 : Row (w3.alloc (.cells (verC v) 112)) w3.heap.size (verC v) 112 := Row.new _ _ _
        obtain ⟨w4, hw4⟩ : ∃ z, z = w3.alloc (.cells (verC v) 112) := ⟨_, rfl⟩
        rw [← hw4] at h4 hr4
        have hw4' := hw4.symm
        have h5 := h4.next ((Below.refl _ _).alloc (Nat.le_refl _) (.cells (verC v) 112))
        have HS5 : Hid (SoR w (w4.alloc (.cells (verC v) 112)) L k u3 u4) := h5
        have HR4 : Hid (Row w4 w3.heap.size (verC v) 112) := hr4
        have hlow := h4.bel.size
        clear hp hb3 h3 h4 h5 hcell hw4 hr4
        go_wp2_with (first | refine wpList_store_new rfl 112 _ _ rfl w3 zeroC (verC v) 112 rfl w3.heap.size rfl rfl rfl infoVs rfl (verC_one _) ?_ | refine wpList_load_row rfl 112 _ rfl w3.heap.size rfl 112 (verC v) (0, 0) _ HR4.out Tryz.underlying112 rfl infoVs ?_ | (at_builtin; refine wpList_ap_ver rfl (some 30) rfl _ _ rfl w.heap.size u3 (versOf (L.take k)).length (flatV (versOf (L.take k))) rfl v rfl w4.heap.size rfl (SoR.vers HS5.out) rfl hlow (by omega) ?_; intro v6 w6 ho6 hg6))
        have HS6 : Hid (SoR w w6 L (k + 1) v6 u4) := SoR.ver HS5.out hkl (by rw [HX.out]; exact HPV.out) ho6 hg6
        clear ho6 hg6
        go_roundw
        case rel => exact ⟨k + 1, by omega, by go_num, HS6.out⟩
        case measure => simp [intOf]; omega
      | none =>
        rw [parseE_no hpv] at hp
        have HPV : Hid (parseV (vb x) = none) := hpv
        clear hpv
        go_wp2_with fail
        refine hp.mono ?_
        rintro e w3 ⟨rfl, hb3⟩
        have h3 := SoR.next HS.out hb3
        have h4 := h3.next ((Below.refl _ _).alloc (Nat.le_refl _) (.cells zeroC 112))
        have HS4 : Hid (SoR w (w3.alloc (.cells zeroC 112)) L k u3 u4) := h4
        clear hp hb3 h3 h4 hcell
        go_wp2_with (refine wpList_store_new rfl 112 _ _ rfl w3 zeroC zeroC 112 rfl w3.heap.size rfl rfl rfl infoVs rfl zeroC_one ?_)
        refine (HCO.out x _ hxm).mono ?_
        rintro e w5 ⟨rfl, hb5⟩
        have h5 := SoR.next HS4.out hb5
        have hlow := h5.bel.size
        have h6 := h5.next ((Below.refl _ _).alloc (Nat.le_refl _) (.cells #[.string x] 9))
        have HS6 : Hid (SoR w (w5.alloc (.cells #[.string x] 9)) L k u3 u4) := h6
        clear hb5 h5 h6
        go_wp2_with (at_builtin; refine wpList_ap_one rfl (some 35) rfl _ _ rfl w.heap.size u4 (restOf (L.take k)).length ((restOf (L.take k)).map Value.string) rfl x rfl w5.heap.size rfl (SoR.rest HS6.out) rfl hlow (by omega) ?_; intro v7 w7 ho7 hg7)
        have HS7 : Hid (SoR w w7 L (k + 1) u3 v7) := SoR.none HS6.out hkl (by rw [HX.out]; exact HPV.out) (by rw [HX.out]; exact ho7) hg7
        clear ho7 hg7
        go_roundw
        case rel => exact ⟨k + 1, by omega, by go_num, HS7.out⟩
        case measure => simp [intOf]; omega
    · have hlt' : ¬ (k : Int) < (n : Int) := by omega
      have hkL : L.take k = L := List.take_of_length_le (by have := HN.out; omega)
      have hSv := SoR.vers HS.out
      have hSr := SoR.rest HS.out
      rw [hkL] at hSv hSr
      have hvl := versOf_len L
      have hsa := sort_any hSv (by have := HN.out; omega)
      have HSr : Hid (wr.ownsRow w.heap.size 9 1 u4 (restOf L).length ((restOf L).map Value.string)) := hSr
      have HAP : Hid (u3.ownBlock = none ∨ u3.ownBlock ≠ u4.ownBlock) := own_apart hSv hSr
      have HLT : Hid (∀ j, u3.ownBlock = some j → w.heap.size ≤ j) := fun j hj => (hSv.lt j hj).1
      clear hkL hSv hSr
      go_wp2_with fail
      refine hsa.mono ?_
      rintro e w5 ⟨rfl, vs, hperm, hfall, hvs, hgr⟩
      have hb5 : Below w.heap.size wr w5 := below_own hgr (SoR.bel HS.out).size HLT.out
      have HR5 : Hid (w5.ownsRow w.heap.size 9 1 u4 (restOf L).length ((restOf L).map Value.string)) := HSr.out.kept hgr (by
        rcases HAP.out with h1 | h1
        · cases e3 : u4.ownBlock with
          | none => exact Or.inl rfl
          | some j => exact Or.inr (by rw [h1]; simp)
        · exact Or.inr (Ne.symm h1))
      have HB5 : Hid (Below w.heap.size w w5) := (SoR.bel HS.out).trans hb5
      have HT5 : Hid (Pw w5) := (SoR.tab HS.out).keep hb5 (SoR.glob HS.out)
      have HV5 : Hid (VsAt w5 u3 vs w5.heap.size) := hvs
      have HPM : Hid (vs.Perm (versOf L)) := hperm
      have HFA : Hid (Falls vs) := hfall
      have hvlen : vs.length + (restOf L).length = n := by rw [hperm.length_eq, hvl]; exact HN.out.symm
      obtain ⟨i0, hi0, hz0, hz1, hz2⟩ := info_parts info9
      obtain ⟨w6, hmk, hown6, hgr6⟩ := run_make_own (P := Tryz.prog) w5 w5.heap.size 38 9 i0 _ 1 Tryz.underlying38 hi0 hz0 hz1 .i64 .i64 n (by rw [hz2]; omega) (by unfold maxLen; omega) (Nat.le_refl _)
      have hb6 : Below w5.heap.size w5 w6 := ⟨hgr6.os, hgr6.tape, hgr6.output, hgr6.size, fun k hk => hgr6.block k hk (fun e => by cases e)⟩
      have HS6 : Hid (SoT w5 w6 vs 0 (.slice (some ⟨w5.heap.size, 0, none⟩) 0 n)) := ⟨hown6, hb6, HT5.out.keep hb6 HT5.out.lt, hgr6.size, HT5.out.lt⟩
      obtain ⟨va, vg, vcap, hvv, hv2, hv3, hv4⟩ := HV5.out.ex
      subst hvv
      obtain ⟨m, hm⟩ : ∃ m, m = vs.length := ⟨_, rfl⟩
      have HMl : Hid _ := hm
      rw [← hm] at hvlen hv3
      rw [← hm]
      clear hsa hvs hgr hb5 hperm hfall hvl hi0 hz0 hz1 hz2 hown6 hgr6 hb6 hv2 hv4 hm
      go_wp2
      clear hmk
      have HTX : Hid (∀ v wx, v ∈ vs → Pw wx → Calls Tryz.prog 62 #[verV v] wx fun e w' => e = .returned (.tuple #[.string (tx (textV v)), .int .i64 0]) ∧ Below wx.heap.size wx w') := fun v wx hv hx => by
        have h := text_ok v wx hx
        rw [textE_yes (vers_may (HPM.out.mem_iff.1 hv))] at h
        exact h
      obtain ⟨wE, hwE⟩ : ∃ x, x = wr := ⟨_, rfl⟩
      go_loopw [9, 44] (fun sv i wq => ∃ j : Nat, j ≤ m ∧ i = .int .i64 j ∧ SoT w5 wq vs j sv) (fun _ i _ => m - (intOf i).toNat)
      case atStart => exact ⟨0, Nat.zero_le _, rfl, HS6.out⟩
      case round =>
        obtain ⟨j, hj, rfl, hSt⟩ := hrel
        have HSt : Hid (SoT w5 wr vs j u9) := hSt
        clear hSt
        by_cases hjl : j < m
        · have hjl' : (j : Int) < (m : Int) := by omega
          have hjv : j < vs.length := by have := HMl.out; omega
          obtain ⟨g, cap, hge, hgc, hgcell⟩ := (HV5.out.keep (SoT.bel HSt.out)).range (by omega)
          simp only [Value.slice.injEq] at hge
          obtain ⟨rfl, _, rfl⟩ := hge
          obtain ⟨v, hv⟩ : ∃ v, v = vs[j] := ⟨_, rfl⟩
          have HVx : Hid (vs[j] = v) := hv.symm
          have hvm : v ∈ vs := by rw [hv]; exact List.getElem_mem _
          have hrg : wr.rangeAt g (j * 6) (encV v) := fun t u ht => hgcell j hjv t u (by rw [← hv]; exact ht)
          have hr7 : Row (wr.alloc (.cells (verC v) 112)) wr.heap.size (verC v) 112 := Row.new _ _ _
          have hS7 := SoT.next HSt.out ((Below.refl _ _).alloc (Nat.le_refl _) (.cells (verC v) 112))
          obtain ⟨w7, hw7⟩ : ∃ z, z = wr.alloc (.cells (verC v) 112) := ⟨_, rfl⟩
          rw [← hw7] at hr7 hS7
          have hw7' := hw7.symm
          have HR7 : Hid (Row w7 wr.heap.size (verC v) 112) := hr7
          have HS7 : Hid (SoT w5 w7 vs j u9) := hS7
          have htx := HTX.out v w7 hvm (SoT.tab HS7.out)
          obtain ⟨t, ht⟩ : ∃ t, t = tx (textV v) := ⟨_, rfl⟩
          have HTt : Hid (tx (textV v) = t) := ht.symm
          rw [← ht] at htx
          clear hgcell hv hr7 hS7 hw7 ht
          go_upto_region 16 with (first | refine wpList_load_mid rfl 112 _ rfl g (j * 6) rfl (encV v) _ hrg Tryz.underlying112 rfl infoVs ?_ | refine wpList_store_new rfl 112 _ _ rfl wr zeroC (verC v) 112 rfl wr.heap.size rfl rfl rfl infoVs rfl (verC_one _) ?_)
          have q0 : w7.cell? ⟨wr.heap.size, 0, none⟩ = some (.int .i64 v.n0) := (Row.cell HR7.out 0).trans rfl
          have q1 : w7.cell? ⟨wr.heap.size, 1, none⟩ = some (.int .i64 v.n1) := (Row.cell HR7.out 1).trans rfl
          have q2 : w7.cell? ⟨wr.heap.size, 2, none⟩ = some (.int .i64 v.n2) := (Row.cell HR7.out 2).trans rfl
          have q3 : w7.cell? ⟨wr.heap.size, 3, none⟩ = some (.int .i64 v.n3) := (Row.cell HR7.out 3).trans rfl
          have q4 : w7.cell? ⟨wr.heap.size, 4, none⟩ = some (.int .i64 v.cnt) := (Row.cell HR7.out 4).trans rfl
          have q5 : w7.cell? ⟨wr.heap.size, 5, none⟩ = some (.string v.tag) := (Row.cell HR7.out 5).trans rfl
          go_wp2_with fail
          clear q0 q1 q2 q3 q4 q5
          refine htx.mono ?_
          rintro e w8 ⟨rfl, hb8⟩
          have h8 := SoT.next HS7.out hb8
          have hlow := h8.low
          have h9 := h8.next ((Below.refl _ _).alloc (Nat.le_refl _) (.cells #[.string t] 9))
          have HS9 : Hid (SoT w5 (w8.alloc (.cells #[.string t] 9)) vs j u9) := h9
          clear htx hb8 h8 h9 hrg hw7'
          go_wp2_with (at_builtin; refine wpList_ap_one rfl (some 56) rfl _ _ rfl w5.heap.size u9 j ((vs.take j).map fun v => Value.string (tx (textV v))) rfl t rfl w8.heap.size rfl (SoT.own HS9.out) rfl hlow (by omega) ?_; intro va wa hoa hga)
          have HSa : Hid (SoT w5 wa vs (j + 1) va) := SoT.more HS9.out hjv (by rw [HVx.out, HTt.out]; exact hoa) hga
          clear hoa hga
          go_roundw
          case rel => exact ⟨j + 1, by omega, by go_num, HSa.out⟩
          case measure => simp [intOf]; omega
        · have hjl' : ¬ (j : Int) < (m : Int) := by omega
          have hjm : vs.take j = vs := List.take_of_length_le (by have := HMl.out; omega)
          have hown := SoT.own HSt.out
          rw [hjm] at hown
          have hRx := HR5.out
          have hBx := SoT.bel HSt.out
          obtain ⟨ra, rg, rcap, hr1, hr2, hr3, hr4⟩ : ∃ (ra : Option Addr) (rg rcap : Nat), u4 = .slice ra (restOf L).length rcap ∧ (0 < (restOf L).length → ra = some ⟨rg, 0, none⟩) ∧ (ra = none → (restOf L).length = 0 ∧ rcap = 0) ∧ ∀ t u, ((restOf L).map Value.string)[t]? = some u → wr.cell? ⟨rg, 0 + t, none⟩ = some u := by
            have hRy := hRx
            obtain ⟨hxl, ⟨rfl, h0⟩ | ⟨g, cap, cur, rfl, _, hrow, _, _, _, _⟩⟩ := hRx
            · refine ⟨none, 0, 0, by rw [h0], fun h => absurd h (by omega), fun _ => ⟨h0, rfl⟩, fun t u ht => ?_⟩
              have := (List.getElem?_eq_some_iff.1 ht).1
              rw [List.length_map] at this
              omega
            · refine ⟨_, g, cap, rfl, fun _ => rfl, (fun h => by cases h), fun t u ht => ?_⟩
              have htl := (List.getElem?_eq_some_iff.1 ht).1
              rw [List.length_map] at htl
              have hgl : g < w5.heap.size := (Array.getElem?_eq_some_iff.1 hrow).1
              rw [Nat.zero_add]
              exact (hBx.cell (p := ⟨g, t, none⟩) hgl).trans ((hRy.cellAt t (by omega)).trans ht)
          subst hr1
          have HOW : Hid (wr.ownsRow w5.heap.size 9 1 u9 j (vs.map fun v => Value.string (tx (textV v)))) := hown
          have hlowr := SoT.low HSt.out
          have HBw : Hid (Below w.heap.size w wr) := HB5.out.trans (hBx.mono HB5.out.size)
          have hb5s := HB5.out.size
          have HFIN : Hid (∀ v' w', w'.ownsRow w5.heap.size 9 1 v' (j + (restOf L).length) ((vs.map fun v => Value.string (tx (textV v))) ++ (restOf L).map Value.string) → wr.grownBy w' u9.ownBlock → SortPost L w (.returned v') w') := fun v' w' h1 h2 => by
            refine ⟨vs, v', rfl, HPM.out, HFA.out, ?_, HBw.out.trans ((below_own h2 hlowr (fun q hq => ((World.ownsRow.lt HOW.out) q hq).1)).mono hb5s)⟩
            have e1 : j + (restOf L).length = L.length := by have := HN.out; have := HMl.out; omega
            rw [e1] at h1
            rw [List.map_append, List.map_map]
            exact World.ownsRow.mono h1 hb5s
          obtain ⟨RP, hRP⟩ : ∃ RP, RP = SortPost L w := ⟨_, rfl⟩
          have HF2 : Hid (∀ v' w', w'.ownsRow w5.heap.size 9 1 v' (j + (restOf L).length) ((vs.map fun v => Value.string (tx (textV v))) ++ (restOf L).map Value.string) → wr.grownBy w' u9.ownBlock → SortPost L w (.returned v') w') := HFIN.out
          have hbyt : (j + (restOf L).length) * 16 ≤ 140737488355328 := by omega
          clear hown hRx hBx hjm hRP
          go_wp2_with (at_builtin; refine wpList_ap_all rfl (some 60) rfl _ _ rfl w5.heap.size u9 j (vs.map fun v => Value.string (tx (textV v))) rfl HOW.out ra rg rcap (restOf L) rfl hr2 hr3 hr4 hlowr hbyt ?_; intro v' w' h1 h2; have HFF : Hid _ := HF2.out v' w' h1 h2; clear h1 h2)
          go_ret
          exact HFF.out
end Go.Proofs.YtkbhckjpmgkgjaaGreatDoor
namespace Go.Proofs.YtkbhckjpmgkgjaaGreatDoor
open Go.RowKit

/-- The texts that Sort tells. -/
def sortedT (vs : List Ver) (L : List ByteArray) : List ByteArray := vs.map (fun v => tx (textV v)) ++ restOf L
theorem text_of {s : ByteArray} {v : Ver} (h : parseV (vb s) = some v) : tx (textV v) = s := by rw [(parse_back h).2, tx_vb]
theorem vers_texts (L : List ByteArray) : ((versOf L).map (fun v => tx (textV v)) ++ restOf L).Perm L := by
  unfold versOf restOf
  induction L with
  | nil => exact List.Perm.refl _
  | cons s L ih =>
    cases h : parseV (vb s) with
    | none =>
      simp only [List.filterMap_cons, h, List.filter_cons, Option.isNone_none, if_true]
      exact (List.perm_middle).trans (List.Perm.cons s ih)
    | some v =>
      simp only [List.filterMap_cons, h, List.filter_cons, Option.isNone_some, List.map_cons, List.cons_append, text_of h]
      simpa using ih
/-- All that there was. -/
theorem sorted_perm {vs : List Ver} {L : List ByteArray} (h : vs.Perm (versOf L)) : (sortedT vs L).Perm L := by
  unfold sortedT
  exact ((h.map _).append_right _).trans (vers_texts L)
theorem parse_vers {L : List ByteArray} {v : Ver} (h : v ∈ versOf L) : parseV (textV v) = some v := parse_text ((mayV_iff v).1 (vers_may h))
theorem parse_rest_none {L : List ByteArray} {s : ByteArray} (h : s ∈ restOf L) : parseV (vb s) = none := by
  unfold restOf at h
  have := (List.mem_filter.1 h).2
  simpa using this
/-- What is a version's text among them. -/
theorem sorted_parse {vs : List Ver} {L : List ByteArray} (h : vs.Perm (versOf L)) (i : Nat) (hi : i < (sortedT vs L).length) : parseV (vb ((sortedT vs L)[i])) = vs[i]? := by
  unfold sortedT at hi ⊢
  by_cases hv : i < vs.length
  · rw [List.getElem_append_left (by rw [List.length_map]; exact hv), List.getElem_map, vb_tx, List.getElem?_eq_getElem hv]
    exact parse_vers (h.mem_iff.1 (List.getElem_mem hv))
  · rw [List.getElem_append_right (by rw [List.length_map]; omega), List.getElem?_eq_none (by omega)]
    exact parse_rest_none (List.getElem_mem _)
/-- Two that fall and have the same are one. -/
theorem falls_one {a b : List Ver} (h : a.Perm b) (ha : Falls a) (hb : Falls b) : a = b :=
  List.Perm.eq_of_pairwise (le := fun x y => 0 ≤ cmpV x y) (fun x y _ _ h1 h2 => by
    have := preV.anti x y
    exact (cmpV_zero x y).1 (by omega)) ha hb h
theorem filterMap_back {α β : Type} (f : α → β) (g : β → Option α) (l : List α) (h : ∀ x ∈ l, g (f x) = some x) : (l.map f).filterMap g = l := by
  induction l with
  | nil => rfl
  | cons x l ih =>
    rw [List.map_cons, List.filterMap_cons, h x (List.mem_cons_self ..)]
    show x :: _ = x :: l
    rw [ih (fun y hy => h y (List.mem_cons_of_mem _ hy))]
theorem versOf_sorted {vs : List Ver} {L : List ByteArray} (h : vs.Perm (versOf L)) : versOf (sortedT vs L) = vs := by
  unfold versOf sortedT
  rw [List.filterMap_append]
  have e1 : (vs.map fun v => tx (textV v)).filterMap (fun s => parseV (vb s)) = vs := filterMap_back _ _ vs fun v hv => by
    rw [vb_tx]
    exact parse_vers (h.mem_iff.1 hv)
  have e2 : (restOf L).filterMap (fun s => parseV (vb s)) = [] := by
    rw [List.filterMap_eq_nil_iff]
    exact fun s hs => parse_rest_none hs
  rw [e1, e2, List.append_nil]
theorem restOf_sorted {vs : List Ver} {L : List ByteArray} (h : vs.Perm (versOf L)) : restOf (sortedT vs L) = restOf L := by
  have e1 : (vs.map fun v => tx (textV v)).filter (fun s => (parseV (vb s)).isNone) = [] := by
    rw [List.filter_eq_nil_iff]
    intro s hs
    obtain ⟨v, hv, rfl⟩ := List.mem_map.1 hs
    rw [vb_tx, parse_vers (h.mem_iff.1 hv)]
    simp
  have e2 : (restOf L).filter (fun s => (parseV (vb s)).isNone) = restOf L := by
    rw [List.filter_eq_self]
    intro s hs
    rw [parse_rest_none hs]
    rfl
  unfold sortedT
  show List.filter _ _ = _
  rw [List.filter_append, e1, e2, List.nil_append]
/-- Sorted once. -/
theorem sorted_once {vs us : List Ver} {L : List ByteArray} (h : vs.Perm (versOf L)) (hf : Falls vs) (hu : us.Perm (versOf (sortedT vs L))) (huf : Falls us) : sortedT us (sortedT vs L) = sortedT vs L := by
  rw [versOf_sorted h] at hu
  have e := falls_one hu huf hf
  subst e
  show us.map _ ++ restOf (sortedT us L) = us.map _ ++ restOf L
  rw [restOf_sorted h]
end Go.Proofs.YtkbhckjpmgkgjaaGreatDoor
namespace Go.Proofs.YtkbhckjpmgkgjaaGreatDoor
open Go.RowKit

theorem pack_cell {w : World} {g o : Nat} {p : Pak} {nv : Value} (h : w.rangeAt g o (encP p nv)) : w.cell? ⟨g, o + 0, none⟩ = some (.string p.nm) ∧ w.cell? ⟨g, o + 1, none⟩ = some (.string p.vr) ∧ w.cell? ⟨g, o + 2, none⟩ = some nv := ⟨h 0 _ rfl, h 1 _ rfl, h 2 _ rfl⟩
set_option maxRecDepth 20000 in
set_option maxHeartbeats 4000000 in
theorem few_ok {L : List Pak} {pv : Value} (w : World) (hL : PacksIn w pv L) (hl : L.length ≤ 140737488355328) (hnd : ∀ p ∈ L, p.nd.length ≤ 140737488355328) : Calls Tryz.prog 11 #[pv] w fun e w' => ∃ b : Bool, e = .returned (.bool b) ∧ (b = true → L.length < 300 ∧ ∀ p ∈ L, p.nd.length < 300) ∧ w' = w := by
  obtain ⟨a, g, off, c, rfl, h2, h3, h4, h5⟩ := hL.ex
  have HA1 : Hid (0 < L.length → a = some ⟨g, off, none⟩) := fun h => (h3 h).1
  have HA5 : Hid (∀ i (h : i < L.length), ∃ na nc, w.cell? ⟨g, off + i * 3 + 2, none⟩ = some (.slice na L[i].nd.length nc)) := fun i hi => by
    obtain ⟨nv, k1, k2⟩ := h5 i hi
    obtain ⟨na, _, _, nc, rfl, _⟩ := k2.ex
    exact ⟨na, nc, (pack_cell k1).2.2⟩
  have HND : Hid (∀ p ∈ L, p.nd.length ≤ 140737488355328) := hnd
  obtain ⟨RP, hRP⟩ : ∃ RP : Ending → World → Prop, RP = fun e w' => ∃ b : Bool, e = .returned (.bool b) ∧ (b = true → L.length < 300 ∧ ∀ p ∈ L, p.nd.length < 300) ∧ w' = w := ⟨_, rfl⟩
  have HRP : Hid (∀ b : Bool, (b = true → L.length < 300 ∧ ∀ p ∈ L, p.nd.length < 300) → RP (.returned (.bool b)) w) := fun b h => by rw [hRP]; exact ⟨b, rfl, h, rfl⟩
  rw [← hRP]
  clear hRP
  obtain ⟨n, hn⟩ : ∃ n, n = L.length := ⟨_, rfl⟩
  have HN : Hid (n = L.length) := hn
  have hnn : L.length = n := hn.symm
  rw [hnn]
  rw [hnn] at h2 hl
  clear hL h3 h4 h5 hn hnn hnd
  go_enter Tryz.func11, Tryz.ntmps11
  go_wp2
  go_loop [3, 4] (fun sv iv => ∃ s i : Nat, i ≤ n ∧ sv = .int .i64 s ∧ iv = .int .i64 i ∧ s ≤ 140737488356000 ∧ n ≤ s ∧ Hid (∀ j (h : j < L.length), j < i → L[j].nd.length ≤ s)) (fun _ iv => n - (intOf iv).toNat)
  case atStart => exact ⟨n, 0, Nat.zero_le _, rfl, rfl, by omega, Nat.le_refl _, fun j _ h => absurd h (by omega)⟩
  case round =>
    obtain ⟨s, i, hi, rfl, rfl, hs1, hs2, HS⟩ := hrel
    by_cases hlt : i < n
    · have hlt' : (i : Int) < (n : Int) := by omega
      by_cases h300 : s < 300
      · have h300' : (s : Int) < 300 := by omega
        have hiL : i < L.length := by have := HN.out; omega
        obtain rfl := HA1.out (by omega)
        obtain ⟨na, nc, hcell⟩ := HA5.out i hiL
        have hle := HND.out _ (List.getElem_mem hiL)
        obtain ⟨nl, hnl⟩ : ∃ nl, nl = L[i].nd.length := ⟨_, rfl⟩
        rw [← hnl] at hcell hle
        have HN2 : Hid (∀ j (h : j < L.length), j < i + 1 → L[j].nd.length ≤ s + nl) := fun j hj h => by
          by_cases e : j = i
          · subst e; rw [hnl]; omega
          · have := HS.out j hj (by omega); omega
        clear hnl
        go_wp2
        go_round
        case rel => exact ⟨s + nl, i + 1, by omega, by go_num, by go_num, by omega, by omega, HN2.out⟩
        case measure => simp [intOf]; omega
      · have h300' : ¬ (s : Int) < 300 := by omega
        go_wp2
        exact HRP.out false fun h => absurd h (by decide)
    · have hlt' : ¬ (i : Int) < (n : Int) := by omega
      by_cases h300 : s < 300
      · have h300' : (s : Int) < 300 := by omega
        have HE : Hid (L.length < 300 ∧ ∀ p ∈ L, p.nd.length < 300) := ⟨by have := HN.out; omega, fun p hp => by
          obtain ⟨j, hj, rfl⟩ := List.getElem_of_mem hp
          have := HS.out j hj (by have := HN.out; omega)
          omega⟩
        go_wp2
        exact HRP.out true fun _ => HE.out
      · have h300' : ¬ (s : Int) < 300 := by omega
        go_wp2
        exact HRP.out false fun h => absurd h (by decide)
/-- The versions' texts of a name. -/
def verOf (L : List Pak) (nm : ByteArray) : List ByteArray := L.filterMap fun p => if p.nm = nm then some p.vr else none
theorem verOf_snoc (L : List Pak) (p : Pak) (nm : ByteArray) : verOf (L ++ [p]) nm = verOf L nm ++ if p.nm = nm then [p.vr] else [] := by
  unfold verOf
  rw [List.filterMap_append]
  congr 1
  by_cases h : p.nm = nm
  · simp [h]
  · simp [h]
theorem verOf_len (L : List Pak) (nm : ByteArray) : (verOf L nm).length ≤ L.length := List.length_filterMap_le _ _
/-- What holds while the texts of a name are gathered. -/
structure VfR (w wr : World) (L : List Pak) (nm : ByteArray) (i : Nat) (tv : Value) : Prop where
  own : wr.ownsRow w.heap.size 9 1 tv (verOf (L.take i) nm).length ((verOf (L.take i) nm).map Value.string)
  old : Below w.heap.size w wr
set_option maxRecDepth 20000 in
set_option maxHeartbeats 4000000 in
theorem versions_ok {L : List Pak} {pv : Value} (nm : ByteArray) (w : World) (hL : PacksIn w pv L) (hl : L.length ≤ 1000) (hF : FitP L) (hT : Pw w) : Calls Tryz.prog 16 #[pv, .string nm] w fun e w' => ∃ a c, e = .returned (.slice a (verOf L nm).length c) ∧ Below w.heap.size w w' := by
  obtain ⟨a, g, off, c, rfl, h2, h3, h4, h5⟩ := hL.ex
  have HA1 : Hid (0 < L.length → a = some ⟨g, off, none⟩) := fun h => (h3 h).1
  have HA5 : Hid (∀ wx, Below w.heap.size w wx → ∀ i (h : i < L.length), ∃ na nl nc, wx.rangeAt g (off + i * 3) (encP L[i] (.slice na nl nc))) := fun wx hx i hi => by
    obtain ⟨nv, k1, k2⟩ := h5 i hi
    obtain ⟨na, _, _, nc, rfl, _⟩ := k2.ex
    exact ⟨na, _, nc, fun j u hj => (hx.cell (p := ⟨g, off + i * 3 + j, none⟩) (h3 (by omega)).2).trans (k1 j u hj)⟩
  obtain ⟨ql, hql⟩ : ∃ q, q = (verOf L nm).length := ⟨_, rfl⟩
  have HQL : Hid (ql = (verOf L nm).length) := hql
  rw [← hql]
  clear hql
  have HT : Hid (Pw w) := hT
  have HFt : Hid (FitP L) := hF
  obtain ⟨n, hn⟩ : ∃ n, n = L.length := ⟨_, rfl⟩
  have HN : Hid (n = L.length) := hn
  have hnn : L.length = n := hn.symm
  rw [hnn]
  rw [hnn] at h2 hl
  have H0 : Hid (VfR w w L nm 0 (.slice none 0 0)) := ⟨World.ownsRow_nil _ _ _ _, Below.refl _ _⟩
  clear hL h3 h4 h5 hn hnn hT hF
  go_enter Tryz.func16, Tryz.ntmps16
  go_wp2
  go_loopw [5, 10] (fun tv iv wr => ∃ i : Nat, i ≤ n ∧ iv = .int .i64 i ∧ VfR w wr L nm i tv) (fun _ iv _ => n - (intOf iv).toNat)
  case atStart => exact ⟨0, Nat.zero_le _, rfl, H0.out⟩
  case round =>
    obtain ⟨i, hi, rfl, hR⟩ := hrel
    have HR : Hid (VfR w wr L nm i u5) := hR
    clear hR H0
    by_cases hlt : i < n
    · have hlt' : (i : Int) < (n : Int) := by omega
      have hiL : i < L.length := by have := HN.out; omega
      obtain rfl := HA1.out (by omega)
      obtain ⟨na, nl, nc, hrg⟩ := HA5.out wr (VfR.old HR.out) i hiL
      obtain ⟨p, hp⟩ : ∃ p, p = L[i] := ⟨_, rfl⟩
      rw [← hp] at hrg
      have hrg0 := hrg
      have HTk : Hid (verOf (L.take (i + 1)) nm = verOf (L.take i) nm ++ if p.nm = nm then [p.vr] else []) := by
        show _ = _
        rw [List.take_succ_eq_append_getElem hiL, verOf_snoc, hp]
      have hb3 : Below wr.heap.size wr (wr.alloc (.cells #[.string p.nm, .string p.vr, .slice na nl nc] 44)) := (Below.refl _ _).alloc (Nat.le_refl _) _
      have hr3 : Row (wr.alloc (.cells #[.string p.nm, .string p.vr, .slice na nl nc] 44)) wr.heap.size #[.string p.nm, .string p.vr, .slice na nl nc] 44 := Row.new _ _ _
      obtain ⟨w3, hw3⟩ : ∃ x, x = wr.alloc (.cells #[.string p.nm, .string p.vr, .slice na nl nc] 44) := ⟨_, rfl⟩
      rw [← hw3] at hb3 hr3
      have hw3' := hw3.symm
      obtain ⟨k5, hk5⟩ : ∃ k, k = wr.heap.size := ⟨_, rfl⟩
      have hk5' := hk5.symm
      rw [← hk5] at hr3
      have d0 : w3.cell? ⟨k5, 0, none⟩ = some (.string p.nm) := (hr3.cell 0).trans rfl
      have d1 : w3.cell? ⟨k5, 1, none⟩ = some (.string p.vr) := (hr3.cell 1).trans rfl
      have HB3 : Hid (Below wr.heap.size wr w3) := hb3
      have hlen : (verOf (L.take i) nm).length ≤ i := Nat.le_trans (verOf_len _ _) (List.length_take_le _ _)
      obtain ⟨q, hq⟩ : ∃ q, q = p.nm := ⟨_, rfl⟩
      rw [← hq] at hw3' d0 HTk
      clear hp hw3 hk5 hb3 hr3
      by_cases he : q = nm
      · have HT2 : Hid (verOf (L.take (i + 1)) nm = verOf (L.take i) nm ++ [p.vr]) := by show _ = _; rw [HTk.out, if_pos he]
        obtain ⟨t, ht⟩ : ∃ t, t = p.vr := ⟨_, rfl⟩
        rw [← ht] at hw3' d1 HT2
        have hown4 : (w3.alloc (.cells #[.string t] 9)).ownsRow w.heap.size 9 1 u5 (verOf (L.take i) nm).length ((verOf (L.take i) nm).map Value.string) := own_below (own_below (VfR.own HR.out) HB3.out) ((Below.refl _ _).alloc (Nat.le_refl _) _)
        have hlow : w.heap.size ≤ w3.heap.size := Nat.le_trans (VfR.old HR.out).size HB3.out.size
        have hrgq : wr.rangeAt g (off + i * 3) [.string q, .string t, .slice na nl nc] := by
          rw [hq, ht]
          exact hrg0
        subst he
        clear hq ht hrg hrg0
        go_wp2_with (first | refine wpList_load_mid rfl 44 _ rfl g (off + i * 3) rfl _ _ hrgq Tryz.underlying44 rfl infoPk ?_ | (refine wpList_store_new rfl 44 _ _ rfl wr zeroPk #[.string q, .string t, .slice na nl nc] 44 rfl wr.heap.size rfl rfl rfl infoPk rfl (pk_one _ _ _ _ _) ?_; rw [hw3']; rw [hk5']) | (at_builtin; refine wpList_ap_one rfl (some 22) rfl _ _ rfl w.heap.size u5 (verOf (L.take i) q).length ((verOf (L.take i) q).map Value.string) rfl t rfl w3.heap.size rfl hown4 rfl hlow (by omega) ?_; intro v5 w5 ho5 hg5))
        have hbx : Below wr.heap.size wr (w3.alloc (.cells #[.string t] 9)) := HB3.out.alloc HB3.out.size _
        have HR5 : Hid (VfR w w5 L q (i + 1) v5) := by
          refine ⟨by rw [HT2.out, List.length_append, List.map_append]; exact ho5, (VfR.old HR.out).trans ((hbx.mono (VfR.old HR.out).size).trans (below_own' hg5 (by simp; omega) fun k hk => (own_block hown4 k hk).1))⟩
        clear ho5 hg5 hown4 hbx
        go_roundw
        case rel => exact ⟨i + 1, by omega, by go_num, HR5.out⟩
        case measure => simp [intOf]; omega
      · have HT2 : Hid (verOf (L.take (i + 1)) nm = verOf (L.take i) nm) := by show _ = _; rw [HTk.out, if_neg he, List.append_nil]
        have hne1 : ¬ q.toList = nm.toList := fun e => he (list_eq.1 e)
        have hne2 : (q.toList == nm.toList) = false := by simpa using hne1
        have hrgq : wr.rangeAt g (off + i * 3) [.string q, .string p.vr, .slice na nl nc] := by
          rw [hq]
          exact hrg0
        have HR5 : Hid (VfR w w3 L nm (i + 1) u5) := ⟨by rw [HT2.out]; exact own_below (VfR.own HR.out) HB3.out, (VfR.old HR.out).trans (HB3.out.mono (VfR.old HR.out).size)⟩
        clear hq hrg hrg0 he
        go_wp2_with (first | refine wpList_load_mid rfl 44 _ rfl g (off + i * 3) rfl _ _ hrgq Tryz.underlying44 rfl infoPk ?_ | (refine wpList_store_new rfl 44 _ _ rfl wr zeroPk #[.string q, .string p.vr, .slice na nl nc] 44 rfl wr.heap.size rfl rfl rfl infoPk rfl (pk_one _ _ _ _ _) ?_; rw [hw3']; rw [hk5']))
        go_roundw
        case rel => exact ⟨i + 1, by omega, by go_num, HR5.out⟩
        case measure => simp [intOf]; omega
    · have hlt' : ¬ (i : Int) < (n : Int) := by omega
      have hti : L.take i = L := List.take_of_length_le (by have := HN.out; omega)
      have hown := VfR.own HR.out
      rw [hti] at hown
      have hvl := verOf_len L nm
      obtain ⟨V, hV⟩ : ∃ V, V = verOf L nm := ⟨_, rfl⟩
      rw [← hV] at hown hvl
      have HQV : Hid (ql = V.length) := by show _ = _; rw [HQL.out, hV]
      have hTx : ∃ a2 c2, u5 = .slice a2 V.length c2 ∧ TxAt wr a2 V c2 := by
        have heach : ∀ x ∈ V, x.size ≤ 140737488355328 := fun x hx => by
          rw [hV] at hx
          unfold verOf at hx
          obtain ⟨p, hp1, hp2⟩ := List.mem_filterMap.1 hx
          by_cases e : p.nm = nm
          · rw [if_pos e] at hp2
            cases hp2
            exact (HFt.out p hp1).2.1
          · rw [if_neg e] at hp2
            cases hp2
        have hown' := hown
        obtain ⟨hlen, ⟨rfl, h0⟩ | ⟨gg, cap, cur, rfl, k2, k3, k4, _⟩⟩ := hown
        · exact ⟨none, 0, by rw [h0], ⟨0, 0, fun h => absurd h (by omega), fun j hj => absurd hj (by omega)⟩, by omega, heach⟩
        · refine ⟨some ⟨gg, 0, none⟩, cap, rfl, ⟨gg, 0, fun _ => rfl, fun j hj => ?_⟩, by simpa using k4, heach⟩
          rw [Nat.zero_add, hown'.cellAt j (by simpa using hj), List.getElem?_map, List.getElem?_eq_getElem hj]
          rfl
      obtain ⟨a2, c2, rfl, hTx2⟩ := hTx
      have hso := sort_ok V a2 c2 wr hTx2 (by have := HN.out; omega) (Pw.keep HT.out (VfR.old HR.out) (Pw.lt HT.out))
      have HB : Hid (Below w.heap.size w wr) := VfR.old HR.out
      obtain ⟨vn, hvn⟩ : ∃ vn, vn = V.length := ⟨_, rfl⟩
      have hvn' : V.length = vn := hvn.symm
      rw [← hvn] at hso
      have HVn : Hid (vn = V.length) := hvn
      have HQn : Hid (ql = vn) := by show _ = _; rw [HQV.out, hvn]
      clear hown hti hV hTx2 hvn hvl
      go_wp2_with fail
      refine hso.mono ?_
      rintro e w6 ⟨vs, rv, rfl, _, _, hown6, hb6⟩
      obtain ⟨a3, c3, rfl⟩ : ∃ a3 c3, rv = .slice a3 vn c3 := by
        obtain ⟨_, ⟨rfl, h0⟩ | ⟨gg, cap, cur, rfl, _⟩⟩ := hown6
        · exact ⟨none, 0, by rw [HVn.out, h0]⟩
        · exact ⟨_, cap, by rw [HVn.out]⟩
      have HB6 : Hid (Below w.heap.size w w6) := HB.out.trans (hb6.mono HB.out.size)
      clear hso hown6 hb6
      go_wp2
      go_ret
      exact ⟨a3, c3, by rw [HQn.out]; rfl, HB6.out⟩
end Go.Proofs.YtkbhckjpmgkgjaaGreatDoor
namespace Go.Proofs.YtkbhckjpmgkgjaaGreatDoor
open Go.RowKit

theorem infoPkz : (Tryz.prog.info? 44).map (fun i => (i.zero, i.size, i.bytes)) = some (some (.agg zeroPk), 3, 56) := by kernel_rfl
theorem infoNdz : (Tryz.prog.info? 61).map (fun i => (i.zero, i.size, i.bytes)) = some (some (.agg zeroNd), 2, 32) := by kernel_rfl
def flatN (L : List Ned) : List Value := (L.map encN).flatten
theorem flatN_len (L : List Ned) : (flatN L).length = L.length * 2 := by
  induction L with
  | nil => rfl
  | cons v L ih =>
    show (encN v ++ flatN L).length = (L.length + 1) * 2
    rw [List.length_append, ih, show (encN v).length = 2 from rfl]
    omega
theorem flatN_at : ∀ (L : List Ned) (i : Nat) (hi : i < L.length) (j : Nat), j < 2 → (flatN L)[i * 2 + j]? = (encN L[i])[j]? := by
  intro L
  induction L with
  | nil => exact fun i hi => absurd hi (by simp)
  | cons c r ih =>
    intro i hi j hj
    have h2 : (encN c).length = 2 := rfl
    show (encN c ++ flatN r)[i * 2 + j]? = _
    cases i with
    | zero => rw [Nat.zero_mul, Nat.zero_add, List.getElem?_append_left (by rw [h2]; exact hj)]; rfl
    | succ i =>
      rw [List.getElem?_append_right (by rw [h2]; omega), h2, show (i + 1) * 2 + j - 2 = i * 2 + j by omega]
      exact ih i (by simpa using hi) j hj
theorem flatN_app (A B : List Ned) : flatN (A ++ B) = flatN A ++ flatN B := by
  unfold flatN
  rw [List.map_append, List.flatten_append]
abbrev PV := Pak × Value
def flatD (D : List PV) : List Value := (D.map fun d => encP d.1 d.2).flatten
theorem flatD_len (D : List PV) : (flatD D).length = D.length * 3 := by
  induction D with
  | nil => rfl
  | cons v L ih =>
    show (encP v.1 v.2 ++ flatD L).length = (L.length + 1) * 3
    rw [List.length_append, ih, show (encP v.1 v.2).length = 3 from rfl]
    omega
theorem flatD_snoc (D : List PV) (d : PV) : flatD (D ++ [d]) = flatD D ++ encP d.1 d.2 := by
  unfold flatD
  rw [List.map_append, List.flatten_append]
  simp
theorem flatD_at : ∀ (D : List PV) (i : Nat) (hi : i < D.length) (j : Nat), j < 3 → (flatD D)[i * 3 + j]? = (encP D[i].1 D[i].2)[j]? := by
  intro D
  induction D with
  | nil => exact fun i hi => absurd hi (by simp)
  | cons c r ih =>
    intro i hi j hj
    have h3 : (encP c.1 c.2).length = 3 := rfl
    show (encP c.1 c.2 ++ flatD r)[i * 3 + j]? = _
    cases i with
    | zero => rw [Nat.zero_mul, Nat.zero_add, List.getElem?_append_left (by rw [h3]; exact hj)]; rfl
    | succ i =>
      rw [List.getElem?_append_right (by rw [h3]; omega), h3, show (i + 1) * 3 + j - 3 = i * 3 + j by omega]
      exact ih i (by simpa using hi) j hj
theorem needs_own {w : World} {B : Nat} {v : Value} {L : List Ned} (h : w.ownsRow B 61 2 v L.length (flatN L)) : NeedsIn w v L := by
  have h' := h
  obtain ⟨hl, ⟨rfl, h0⟩ | ⟨g, cap, cur, rfl, _, hr, hc, _⟩⟩ := h
  · exact ⟨none, 0, 0, 0, by rw [h0], by omega, fun h => absurd h (by omega), fun _ => rfl, fun i hi => absurd hi (by omega)⟩
  · refine ⟨some ⟨g, 0, none⟩, g, 0, cap, rfl, hc, fun _ => ⟨rfl, (Array.getElem?_eq_some_iff.1 hr).1⟩, (fun h => by cases h), fun i hi j u hj => ?_⟩
    have hj2 : j < 2 := (List.getElem?_eq_some_iff.1 hj).1
    rw [Nat.zero_add, h'.cellAt (i * 2 + j) (by omega), flatN_at L i hi j hj2]
    exact hj
theorem own_base {w : World} {B B' s n : Nat} {e : TypeId} {v : Value} {xs : List Value} (h : w.ownsRow B' e s v n xs) (hB : B ≤ B') : w.ownsRow B e s v n xs := by
  obtain ⟨h0, h1 | ⟨g, cap, cur, rfl, hb, r⟩⟩ := h
  · exact ⟨h0, Or.inl h1⟩
  · exact ⟨h0, Or.inr ⟨g, cap, cur, rfl, Nat.le_trans hB hb, r⟩⟩
/-- Packages in memory of their own: what they are, and where their needs lie. -/
structure OwR (w wr : World) (D : List PV) (ov : Value) : Prop where
  own : wr.ownsRow w.heap.size 44 3 ov D.length (flatD D)
  nds : ∀ d ∈ D, wr.ownsRow w.heap.size 61 2 d.2 d.1.nd.length (flatN d.1.nd)
  sep : D.Pairwise fun d e => ∀ a b, d.2.ownBlock = some a → e.2.ownBlock = some b → a ≠ b
  old : Below w.heap.size w wr
theorem OwR.next {w wr w' : World} {D : List PV} {ov : Value} (h : OwR w wr D ov) (hb : Below wr.heap.size wr w') : OwR w w' D ov :=
  ⟨own_below h.own hb, fun d hd => own_below (h.nds d hd) hb, h.sep, h.old.trans (hb.mono h.old.size)⟩
theorem OwR.packs {w wr : World} {D : List PV} {ov : Value} (h : OwR w wr D ov) : PacksIn wr ov (D.map (·.1)) := by
  have h' := h.own
  have hl : (D.map (·.1)).length = D.length := List.length_map _
  obtain ⟨_, ⟨rfl, h0⟩ | ⟨g, cap, cur, rfl, _, hr, hc, _⟩⟩ := h.own
  · exact ⟨none, 0, 0, 0, by rw [hl, h0], by omega, fun h => absurd h (by omega), fun _ => rfl, fun i hi => absurd hi (by omega)⟩
  · refine ⟨some ⟨g, 0, none⟩, g, 0, cap, by rw [hl], by rw [hl]; exact hc, fun _ => ⟨rfl, (Array.getElem?_eq_some_iff.1 hr).1⟩, (fun h => by cases h), fun i hi => ?_⟩
    have hiD : i < D.length := by rw [hl] at hi; exact hi
    refine ⟨D[i].2, fun j u hj => ?_, ?_⟩
    · have hj3 : j < 3 := (List.getElem?_eq_some_iff.1 hj).1
      rw [List.getElem_map] at hj
      rw [Nat.zero_add, h'.cellAt (i * 3 + j) (by omega), flatD_at D i hiD j hj3]
      exact hj
    · rw [List.getElem_map]
      exact needs_own (h.nds _ (List.getElem_mem hiD))
/-- One package more. -/
theorem OwR.more {w w8 w9 : World} {D : List PV} {ov ov' : Value} {p : Pak} {nv : Value} (h : OwR w w8 D ov) (hn : w8.ownsRow w.heap.size 61 2 nv p.nd.length (flatN p.nd)) (hsep : ∀ d ∈ D, ∀ a b, d.2.ownBlock = some a → nv.ownBlock = some b → a ≠ b) (ho : w9.ownsRow w.heap.size 44 3 ov' (D.length + 1) (flatD D ++ encP p nv)) (hg : w8.grownBy w9 ov.ownBlock) : OwR w w9 (D ++ [(p, nv)]) ov' := by
  have hrow := ownsRow_row h.own
  have keep : ∀ {v : Value} {n : Nat} {xs : List Value}, w8.ownsRow w.heap.size 61 2 v n xs → w9.ownsRow w.heap.size 61 2 v n xs := fun {v n xs} hv => own_same hv fun k hk => hg.block k (own_block hv k hk).2 fun e => by
    obtain ⟨C, hC⟩ := ownsRow_row hv k hk
    obtain ⟨E, hE⟩ := hrow k e.symm
    rw [hC] at hE
    simp at hE
  refine ⟨by rw [List.length_append, flatD_snoc]; exact ho, fun d hd => ?_, ?_, h.old.trans (below_own' hg h.old.size fun k hk => (own_block h.own k hk).1)⟩
  · rcases List.mem_append.1 hd with hd | hd
    · exact keep (h.nds d hd)
    · rw [List.mem_singleton.1 hd]; exact keep hn
  · rw [List.pairwise_append]
    refine ⟨h.sep, List.pairwise_singleton _ _, fun d hd e he => ?_⟩
    rw [List.mem_singleton.1 he]
    exact hsep d hd
theorem one_pk (nm vr : ByteArray) (na : Option Addr) (nl nc : Nat) (w : World) : (Instr.buildSlice 22 1 #[(0, .agg #[.string nm, .string vr, .slice na nl nc])]).run Tryz.prog w = .ok (.slice (some ⟨w.heap.size, 0, none⟩) 1 1) (w.alloc (.cells #[.string nm, .string vr, .slice na nl nc] 44)) := by
  obtain ⟨i0, hi, hz0, hz1, _⟩ := info_parts infoPkz
  refine run_buildSlice w 22 44 1 _ _ i0 _ Tryz.underlying22 hi hz0 (by rw [hz1]; decide) (by rw [hz1]; decide) ?_
  rw [hz1]
  kernel_rfl
theorem own_zero (w : World) : (w.alloc (.cells #[] 61)).ownsRow w.heap.size 61 2 (.slice (some ⟨w.heap.size, 0, none⟩) 0 0) 0 [] :=
  ⟨rfl, Or.inr ⟨w.heap.size, 0, #[], rfl, Nat.le_refl _, heap_alloc_new w _, Nat.le_refl _, by unfold maxLen; omega, rfl, rfl⟩⟩
theorem slice_of {w : World} {B n s : Nat} {e : TypeId} {v : Value} {xs : List Value} (h : w.ownsRow B e s v n xs) : ∃ a c, v = .slice a n c := by
  obtain ⟨_, ⟨rfl, h0⟩ | ⟨g, cap, cur, rfl, _⟩⟩ := h
  · exact ⟨none, 0, by rw [h0]⟩
  · exact ⟨_, cap, rfl⟩
set_option maxRecDepth 40000 in
set_option maxHeartbeats 8000000 in
theorem own_ok {L : List Pak} {pv : Value} (w : World) (hL : PacksIn w pv L) (hl : L.length ≤ 1000) (hnd : ∀ p ∈ L, p.nd.length ≤ 1000) : Calls Tryz.prog 13 #[pv] w fun e w' => ∃ (ov : Value) (D : List PV), e = .returned ov ∧ D.map (·.1) = L ∧ OwR w w' D ov := by
  obtain ⟨a, g, off, c, rfl, h2, h3, h4, h5⟩ := hL.ex
  have HA1 : Hid (0 < L.length → a = some ⟨g, off, none⟩) := fun h => (h3 h).1
  have HA5 : Hid (∀ i (h : i < L.length), ∃ na nc, (∀ wx, Below w.heap.size w wx → wx.rangeAt g (off + i * 3) (encP L[i] (.slice na L[i].nd.length nc))) ∧ ∀ wx, Below w.heap.size w wx → NeedsIn wx (.slice na L[i].nd.length nc) L[i].nd) := fun i hi => by
    obtain ⟨nv, k1, k2⟩ := h5 i hi
    have k2' := k2
    obtain ⟨na, _, _, nc, rfl, _⟩ := k2.ex
    exact ⟨na, nc, fun wx hx j u hj => (hx.cell (p := ⟨g, off + i * 3 + j, none⟩) (h3 (by omega)).2).trans (k1 j u hj), fun wx hx => k2'.keep (Nat.le_refl _) hx⟩
  have HND : Hid (∀ p ∈ L, p.nd.length ≤ 1000) := hnd
  obtain ⟨n, hn⟩ : ∃ n, n = L.length := ⟨_, rfl⟩
  have HN : Hid (n = L.length) := hn
  have hnn : L.length = n := hn.symm
  rw [hnn]
  rw [hnn] at h2 hl
  have H0 : Hid (OwR w w [] (.slice none 0 0)) := ⟨World.ownsRow_nil _ _ _ _, (fun d h => by cases h), List.Pairwise.nil, Below.refl _ _⟩
  obtain ⟨RP, hRP⟩ : ∃ RP : Ending → World → Prop, RP = fun e w' => ∃ (ov : Value) (D : List PV), e = .returned ov ∧ D.map (·.1) = L ∧ OwR w w' D ov := ⟨_, rfl⟩
  have HRP : Hid (∀ w' ov (D : List PV), D.map (·.1) = L → OwR w w' D ov → RP (.returned ov) w') := fun w' ov D h1 h2 => by rw [hRP]; exact ⟨ov, D, rfl, h1, h2⟩
  rw [← hRP]
  clear hL h3 h4 h5 hn hnn hnd hRP
  go_enter Tryz.func13, Tryz.ntmps13
  go_wp2
  go_loopw [3, 4] (fun ov iv wr => ∃ (i : Nat) (D : List PV), i ≤ n ∧ iv = .int .i64 i ∧ Hid (D.map (·.1) = L.take i) ∧ OwR w wr D ov) (fun _ iv _ => n - (intOf iv).toNat)
  case atStart => exact ⟨0, [], Nat.zero_le _, rfl, rfl, H0.out⟩
  case round =>
    obtain ⟨i, D, hi, rfl, HD, hR⟩ := hrel
    have HR : Hid (OwR w wr D u3) := hR
    clear hR H0
    by_cases hlt : i < n
    · have hlt' : (i : Int) < (n : Int) := by omega
      have hiL : i < L.length := by have := HN.out; omega
      have HDl : Hid (D.length = i) := by
        have h := congrArg List.length HD.out
        rw [List.length_map, List.length_take] at h
        show _ = _
        omega
      obtain rfl := HA1.out (by omega)
      obtain ⟨na, nc, hrg0, hnin0⟩ := HA5.out i hiL
      have hrg := hrg0 wr (OwR.old HR.out)
      obtain ⟨p, hp⟩ : ∃ p, p = L[i] := ⟨_, rfl⟩
      rw [← hp] at hrg hnin0
      have hpl := HND.out p (by rw [hp]; exact List.getElem_mem _)
      have HTk : Hid ((D ++ [(p, (Value.slice none 0 0))]).map (·.1) = L.take (i + 1)) := by
        show _ = _
        rw [List.map_append, HD.out, List.take_succ_eq_append_getElem hiL, hp]
        rfl
      obtain ⟨nl, hnl⟩ : ∃ nl, nl = p.nd.length := ⟨_, rfl⟩
      rw [← hnl] at hrg hnin0 hpl
      have HNl : Hid (nl = p.nd.length) := hnl
      have hb3 : Below wr.heap.size wr (wr.alloc (.cells #[.string p.nm, .string p.vr, .slice na nl nc] 44)) := (Below.refl _ _).alloc (Nat.le_refl _) _
      have hr3 : Row (wr.alloc (.cells #[.string p.nm, .string p.vr, .slice na nl nc] 44)) wr.heap.size #[.string p.nm, .string p.vr, .slice na nl nc] 44 := Row.new _ _ _
      obtain ⟨w3, hw3⟩ : ∃ x, x = wr.alloc (.cells #[.string p.nm, .string p.vr, .slice na nl nc] 44) := ⟨_, rfl⟩
      rw [← hw3] at hb3 hr3
      have hw3' := hw3.symm
      obtain ⟨k5, hk5⟩ : ∃ k, k = wr.heap.size := ⟨_, rfl⟩
      have hk5' := hk5.symm
      rw [← hk5] at hr3
      have HB3 : Hid (Below wr.heap.size wr w3) := hb3
      have hk53 : k5 < w3.heap.size := hr3.lt
      have hbz : Below w3.heap.size w3 (w3.alloc (.cells #[] 61)) := (Below.refl _ _).alloc (Nat.le_refl _) _
      have hrz : Row (w3.alloc (.cells #[] 61)) k5 #[.string p.nm, .string p.vr, .slice na nl nc] 44 := hr3.below hbz hr3.lt
      have hnz : NeedsIn (w3.alloc (.cells #[] 61)) (.slice na nl nc) p.nd := hnin0 _ ((OwR.old HR.out).trans ((HB3.out.trans (hbz.mono HB3.out.size)).mono (OwR.old HR.out).size))
      have hoz := own_zero w3
      obtain ⟨wz, hwz⟩ : ∃ x, x = w3.alloc (.cells #[] 61) := ⟨_, rfl⟩
      rw [← hwz] at hbz hrz hnz hoz
      have hwz' := hwz.symm
      have c2 : wz.cell? ⟨k5, 2, none⟩ = some (.slice na nl nc) := (hrz.cell 2).trans rfl
      have HBZ : Hid (Below w3.heap.size w3 wz) := hbz
      have HRZ : Hid (Row wz k5 #[.string p.nm, .string p.vr, .slice na nl nc] 44) := hrz
      have HOZ : Hid (wz.ownsRow w3.heap.size 61 2 (.slice (some ⟨w3.heap.size, 0, none⟩) 0 0) 0 []) := hoz
      obtain ⟨na2, b, boff, nc2, hne, hq1, hq2, hq3, hq4⟩ := hnz.ex
      simp only [Value.slice.injEq] at hne
      obtain ⟨rfl, -, rfl⟩ := hne
      have HQ2 : Hid (0 < nl → na = some ⟨b, boff, none⟩) := fun h => (hq2 (by have := HNl.out; omega)).1
      have HQ3 : Hid (na = none → nl = 0 ∧ nc = 0) := fun h => ⟨by have := hq3 h; have := HNl.out; omega, hq3 h⟩
      have HFl : Hid ((flatN p.nd).length = nl * 2) := by show _ = _; rw [flatN_len, ← HNl.out]
      have HCl : Hid (∀ j u, (flatN p.nd)[j]? = some u → wz.cell? ⟨b, boff + j, none⟩ = some u) := fun j u hj => by
        have hjl : j < (flatN p.nd).length := (List.getElem?_eq_some_iff.1 hj).1
        rw [flatN_len] at hjl
        have e : j = j / 2 * 2 + j % 2 := by omega
        have h6 := hq4 (j / 2) (by omega) (j % 2) u (by
          rw [← flatN_at p.nd (j / 2) (by omega) (j % 2) (by omega), ← e]
          exact hj)
        rw [show boff + j / 2 * 2 + j % 2 = boff + j by omega] at h6
        exact h6
      have HOne : Hid (∀ u ∈ flatN p.nd, u.oneCell' = true) := fun u hu => by
        unfold flatN at hu
        obtain ⟨l, hl1, hl2⟩ := List.mem_flatten.1 hu
        obtain ⟨x, _, rfl⟩ := List.mem_map.1 hl1
        simp at hl2
        rcases hl2 with rfl | rfl <;> rfl
      clear hp hnl hw3 hk5 hb3 hwz hbz hrz hnz hoz hq1 hq2 hq3 hq4 hnin0 hrg0 hr3
      go_upto_region 7 with (first | refine wpList_load_mid rfl 44 _ rfl g (off + i * 3) rfl _ _ hrg Tryz.underlying44 rfl infoPk ?_ | (refine wpList_store_new rfl 44 _ _ rfl wr zeroPk #[.string p.nm, .string p.vr, .slice na nl nc] 44 rfl wr.heap.size rfl rfl rfl infoPk rfl (pk_one _ _ _ _ _) ?_; rw [hw3']; rw [hk5']) | (at_builtin; refine wpList_plain rfl fun K' hK' => ?_; refine wp_append_any (some 19) rfl _ _ 42 61 (.agg zeroNd) 2 32 Tryz.underlying42 infoNdz rfl (by decide) rfl w3.heap.size (.slice (some ⟨w3.heap.size, 0, none⟩) 0 0) 0 [] rfl HOZ.out na b boff nl nc (flatN p.nd) HFl.out rfl HQ2.out HCl.out HOne.out HQ3.out (by unfold maxLen; omega) (by omega) HBZ.out.size ?_; intro v6 w6 ho6 hg6 _; refine hK' _ _ ?_; obtain ⟨ta, tc, hv6⟩ := slice_of ho6; have HO6 : Hid (w6.ownsRow w3.heap.size 61 2 v6 (0 + nl) ([] ++ flatN p.nd)) := ho6; have HB6 : Hid (Below w3.heap.size w3 w6) := HBZ.out.trans (below_own' hg6 HBZ.out.size fun k hk => (own_block HOZ.out k hk).1); have hr6 : Row w6 k5 #[.string p.nm, .string p.vr, .slice na nl nc] 44 := (hg6.block k5 HRZ.out.lt (fun e => by simp only [Value.ownBlock, Option.some.injEq] at e; omega)).trans HRZ.out; have HR6 : Hid (Row w6 k5 #[.string p.nm, .string p.vr, .slice na nl nc] 44) := hr6; have cz : w6.cell? ⟨k5, 2, none⟩ = some (.slice na nl nc) := (hr6.cell 2).trans rfl; have fz := hr6.frozen 2; rw [Nat.zero_add] at hv6; subst hv6; clear ho6 hg6 hr6))
      have HN6 : Hid (w6.ownsRow w3.heap.size 61 2 (.slice ta nl tc) nl (flatN p.nd)) := by
        have h := HO6.out
        rw [Nat.zero_add, List.nil_append] at h
        exact h
      have hr7 : Row (w6.setCell ⟨k5, 2, none⟩ (.slice ta nl tc)) k5 #[.string p.nm, .string p.vr, .slice ta nl tc] 44 := HR6.out.setCell (i := 2) (.slice ta nl tc)
      have hb7 : Below wr.heap.size wr (w6.setCell ⟨k5, 2, none⟩ (.slice ta nl tc)) := (HB3.out.trans (HB6.out.mono HB3.out.size)).trans (below_set (by rw [hk5']; exact Nat.le_refl _) _ _)
      have hn7 : (w6.setCell ⟨k5, 2, none⟩ (.slice ta nl tc)).ownsRow w3.heap.size 61 2 (.slice ta nl tc) nl (flatN p.nd) := own_same HN6.out fun j hj => Below.heap_setCell _ _ _ _ (by have := (own_block HN6.out j hj).1; show j ≠ k5; omega)
      obtain ⟨w7, hw7⟩ : ∃ x, x = w6.setCell ⟨k5, 2, none⟩ (.slice ta nl tc) := ⟨_, rfl⟩
      rw [← hw7] at hr7 hb7 hn7
      rw [← hw7]
      have HB7 : Hid (Below wr.heap.size wr w7) := hb7
      have HN7 : Hid (w7.ownsRow w3.heap.size 61 2 (.slice ta nl tc) nl (flatN p.nd)) := hn7
      have hone := one_pk p.nm p.vr ta nl tc w7
      have HR7 : Hid (OwR w w7 D u3) := OwR.next HR.out HB7.out
      have hba : Below w7.heap.size w7 (w7.alloc (.cells #[.string p.nm, .string p.vr, .slice ta nl tc] 44)) := (Below.refl _ _).alloc (Nat.le_refl _) _
      have HBa : Hid (Below w7.heap.size w7 (w7.alloc (.cells #[.string p.nm, .string p.vr, .slice ta nl tc] 44))) := hba
      have HRa : Hid (OwR w (w7.alloc (.cells #[.string p.nm, .string p.vr, .slice ta nl tc] 44)) D u3) := OwR.next HR7.out hba
      have hlow7 : w.heap.size ≤ w7.heap.size := (OwR.old HR7.out).size
      have hDl : D.length ≤ 1000 := by have := HDl.out; omega
      clear hw7 hb7 hn7 hba cz fz c2 hwz' hw3' hk53 hrg
      go_wp2_with (first | refine wpList_load_row rfl 44 _ rfl k5 rfl 44 #[.string p.nm, .string p.vr, .slice ta nl tc] (0, 0) _ hr7 Tryz.underlying44 rfl infoPk ?_ | (at_builtin; refine wpList_plain rfl fun K' hK' => ?_; refine wp_append_any (some 24) rfl _ _ 22 44 (.agg zeroPk) 3 56 Tryz.underlying22 infoPkz rfl (by decide) rfl w.heap.size u3 D.length (flatD D) rfl (OwR.own HRa.out) (some ⟨w7.heap.size, 0, none⟩) w7.heap.size 0 1 1 (encP p (.slice ta nl tc)) rfl rfl (fun _ => rfl) (fun j u hj => by rw [Nat.zero_add, (Row.new w7 #[.string p.nm, .string p.vr, .slice ta nl tc] 44).cell j, ← hj]; exact List.getElem?_toArray) (fun u hu => by simp at hu; rcases hu with rfl | rfl | rfl <;> rfl) (fun h => nomatch h) (by unfold maxLen; omega) (by omega) (by simp; omega) ?_; intro v9 w9 ho9 hg9 _; refine hK' _ _ ?_))
      have hsep : ∀ d ∈ D, ∀ x y, d.2.ownBlock = some x → (Value.slice ta nl tc).ownBlock = some y → x ≠ y := fun d hd x y hx hy => by
        have h1 := (own_block (OwR.nds HR.out d hd) x hx).2
        have h2 := (own_block HN7.out y hy).1
        have h3 := HB3.out.size
        omega
      have hn8 : (w7.alloc (.cells #[.string p.nm, .string p.vr, .slice ta nl tc] 44)).ownsRow w.heap.size 61 2 (.slice ta nl tc) p.nd.length (flatN p.nd) := by
        rw [← HNl.out]
        exact own_below (own_base HN7.out (Nat.le_trans (OwR.old HR.out).size HB3.out.size)) HBa.out
      have HR9 : Hid (OwR w w9 (D ++ [(p, .slice ta nl tc)]) v9) := OwR.more HRa.out hn8 hsep ho9 hg9
      have HD9 : Hid ((D ++ [(p, Value.slice ta nl tc)]).map (·.1) = L.take (i + 1)) := by
        have h := HTk.out
        rw [List.map_append] at h ⊢
        exact h
      clear ho9 hg9 hsep hn8 hr7 hone
      go_roundw
      case rel => exact ⟨i + 1, D ++ [(p, .slice ta nl tc)], by omega, by go_num, HD9, HR9.out⟩
      case measure => simp [intOf]; omega
    · have hlt' : ¬ (i : Int) < (n : Int) := by omega
      have HE := HRP.out wr u3 D (by rw [HD.out, List.take_of_length_le (by have := HN.out; omega)]) HR.out
      have HEE : Hid (RP (.returned u3) wr) := HE
      clear HE
      go_wp2
      exact HEE.out
end Go.Proofs.YtkbhckjpmgkgjaaGreatDoor
namespace Go.Proofs.YtkbhckjpmgkgjaaGreatDoor
open Go.RowKit

/-- How many packages a name has. -/
def cntN (L : List Pak) (s : ByteArray) : Nat := (verOf L s).length
theorem cntN_cons (p : Pak) (L : List Pak) (s : ByteArray) : cntN (p :: L) s = (if p.nm = s then 1 else 0) + cntN L s := by
  unfold cntN verOf
  by_cases h : p.nm = s
  · simp [h, Nat.add_comm]
  · simp [h]
theorem sum_if {S : List ByteArray} (hn : S.Nodup) (x : ByteArray) (hx : x ∈ S) : (S.map fun s => if x = s then 1 else 0).sum = 1 := by
  induction S with
  | nil => cases hx
  | cons a S ih =>
    rw [List.map_cons, List.sum_cons]
    obtain ⟨h1, h2⟩ := List.nodup_cons.1 hn
    by_cases e : x = a
    · subst e
      rw [if_pos rfl]
      have : (S.map fun s => if x = s then 1 else 0) = S.map fun _ => 0 := List.map_congr_left fun s hs => if_neg fun e => h1 (by rw [e]; exact hs)
      rw [this]
      have h0 : ∀ (l : List ByteArray), (l.map fun _ => 0).sum = 0 := fun l => by induction l with | nil => rfl | cons _ _ ih => rw [List.map_cons, List.sum_cons, ih]
      rw [h0]
    · rw [if_neg e, ih h2 ((List.mem_cons.1 hx).resolve_left e)]
theorem sum_add (S : List ByteArray) (f g : ByteArray → Nat) : (S.map fun s => f s + g s).sum = (S.map f).sum + (S.map g).sum := by
  induction S with
  | nil => rfl
  | cons a S ih => rw [List.map_cons, List.sum_cons, ih, List.map_cons, List.sum_cons, List.map_cons, List.sum_cons]; omega
/-- Each package once. -/
theorem sum_cnt {S : List ByteArray} (hn : S.Nodup) : ∀ L : List Pak, (∀ p ∈ L, p.nm ∈ S) → (S.map (cntN L)).sum = L.length
  | [], _ => by
    have h0 : ∀ (l : List ByteArray), (l.map (cntN [])).sum = 0 := fun l => by induction l with | nil => rfl | cons _ _ ih => rw [List.map_cons, List.sum_cons, ih]; rfl
    rw [h0]
    rfl
  | p :: L, h => by
    have e : S.map (cntN (p :: L)) = S.map fun s => (if p.nm = s then 1 else 0) + cntN L s := List.map_congr_left fun s _ => cntN_cons p L s
    rw [e, sum_add, sum_if hn p.nm (h p List.mem_cons_self), sum_cnt hn L fun q hq => h q (List.mem_cons_of_mem _ hq), List.length_cons, Nat.add_comm]
theorem packs_mem : ∀ {L : List Pak} {A : List Rl}, packsE A L = 0 → ∀ p ∈ L, ∃ B, packE B p = 0 := by
  intro L
  induction L with
  | nil => intro A _ p hp; cases hp
  | cons q r ih =>
    intro A h p hp
    rw [packsE_cons] at h
    by_cases hq : packE A q ≠ 0
    · rw [if_pos hq] at h; exact absurd h hq
    · rw [if_neg hq] at h
      rcases List.mem_cons.1 hp with rfl | hp
      · exact ⟨A, Decidable.not_not.1 hq⟩
      · exact ih h p hp
theorem packE_parts {A : List Rl} {p : Pak} (h : packE A p = 0) : rightP p.nm p.vr A = 0 ∧ needsE [] p.nd = 0 := by
  unfold packE at h
  by_cases h1 : rightP p.nm p.vr A ≠ 0
  · rw [if_pos h1] at h; exact absurd h h1
  · rw [if_neg h1] at h; exact ⟨Decidable.not_not.1 h1, h⟩
/-- A package that is told twice is found out. -/
theorem twice_bad {L : List Pak} {p : Pak} (h : rightL L = 0) (hp : p ∈ L) (hl : L.length + 1 ≤ 1024) : rightL (L ++ [p]) = 13 := by
  obtain ⟨⟨_, g2⟩, g3⟩ := rightL_zero.1 h
  have hb : bigL (L ++ [p]) = false := (bigL_iff _).2 ⟨by rw [List.length_append]; exact hl, fun q hq => by
    rcases List.mem_append.1 hq with hq | hq
    · exact g2 q hq
    · rw [List.mem_singleton.1 hq]; exact g2 p hp⟩
  obtain ⟨B, hB⟩ := packs_mem g3 p hp
  obtain ⟨k1, ⟨x, k2⟩, _⟩ := rightP_ok (packE_parts hB).1
  have hr : rightP p.nm p.vr (([] : List Rl) ++ L.map Pak.key) = 13 := by
    unfold rightP
    rw [if_neg (by rw [k1]; decide), k2, if_neg (by simp), if_pos]
    exact List.mem_map.2 ⟨p, hp, rfl⟩
  unfold rightL
  rw [if_neg (by rw [hb]; decide), packsE_snoc, g3, if_neg (fun k => k rfl)]
  unfold packE
  rw [hr, if_pos (by decide)]
def noneN : Ned := ⟨⟨#[110, 111, 110, 101]⟩, ⟨#[42]⟩⟩
theorem alt_oneI {x : By} {L : List Cut} (h : (44 : UInt8) ∉ x) (ht : termS x = some L) : altS x = some L := by
  unfold altS gatherS
  have : splitB 44 16 x = [x] := by rw [splitB, cutAt_none h]
  rw [this, if_neg (by rw [List.length_singleton]; omega), gath1_cons, ht]
  rfl
theorem star_range : rangeS [42] = some allC := by
  have h1 : altS [42] = some allC := alt_oneI (by simp) rfl
  have hs : splitB 124 16 [42] = [[42]] := by rw [splitB, cutAt_none (by simp)]
  unfold rangeS gatherS
  rw [hs, if_neg (by decide), gath1_cons, h1]
  rfl
theorem none_twice {A : List Ned} (h : needsE [] A = 0) : needsE [] (A ++ [noneN, noneN]) = 13 := by
  have hn : nameI (vb noneN.nm) = true := by decide
  have hr : rangeS (vb noneN.rg) = some allC := star_range
  have e : A ++ [noneN, noneN] = (A ++ [noneN]) ++ [noneN] := by simp
  have h13 : ∀ B : List Ned, noneN.nm ∈ B.map Ned.nm → rightN noneN B = 13 := fun B hB => by
    unfold rightN
    rw [if_neg (by rw [hn]; decide), hr, if_neg (by simp), if_pos hB]
  have h1 : needsE [] (A ++ [noneN]) = rightN noneN A := by rw [needsE_snoc, h, if_neg (fun k => k rfl), List.nil_append]
  rw [e, needsE_snoc, h1, List.nil_append]
  by_cases hm : noneN.nm ∈ A.map Ned.nm
  · rw [h13 A hm, if_pos (by decide)]
  · have h0 : rightN noneN A = 0 := by
      unfold rightN
      rw [if_neg (by rw [hn]; decide), hr, if_neg (by simp), if_neg hm]
    rw [h0, if_neg (fun k => k rfl)]
    exact h13 _ (by simp)
/-- A need that is told twice is found out. -/
theorem again_bad {L : List Pak} {n : Nat} (h : rightL L = 0) (hn : n < L.length) (hl : L[n].nd.length + 2 ≤ 64) : rightL (L.set n ⟨L[n].nm, L[n].vr, L[n].nd ++ [noneN, noneN]⟩) = 13 := by
  obtain ⟨⟨g1, g2⟩, g3⟩ := rightL_zero.1 h
  have hb : bigL (L.set n ⟨L[n].nm, L[n].vr, L[n].nd ++ [noneN, noneN]⟩) = false := (bigL_iff _).2 ⟨by rw [List.length_set]; exact g1, fun q hq => by
    rcases List.mem_or_eq_of_mem_set hq with hq | rfl
    · exact g2 q hq
    · show (L[n].nd ++ [noneN, noneN]).length ≤ 64
      rw [List.length_append]
      exact hl⟩
  unfold rightL
  rw [if_neg (by rw [hb]; decide)]
  have key : ∀ (L : List Pak) (n : Nat) (hn : n < L.length) (A : List Rl), packsE A L = 0 → packsE A (L.set n ⟨L[n].nm, L[n].vr, L[n].nd ++ [noneN, noneN]⟩) = 13 := by
    intro L
    induction L with
    | nil => intro n hn; exact absurd hn (by simp)
    | cons p r ih =>
      intro n hn A hA
      rw [packsE_cons] at hA
      by_cases hp : packE A p ≠ 0
      · rw [if_pos hp] at hA; exact absurd hA hp
      · rw [if_neg hp] at hA
        cases n with
        | zero =>
          obtain ⟨k1, k2⟩ := packE_parts (Decidable.not_not.1 hp)
          show packsE A (⟨p.nm, p.vr, p.nd ++ [noneN, noneN]⟩ :: r) = 13
          have e : packE A ⟨p.nm, p.vr, p.nd ++ [noneN, noneN]⟩ = 13 := by
            unfold packE
            rw [if_neg (fun k => k k1)]
            exact none_twice k2
          rw [packsE_cons, e, if_pos (by decide)]
        | succ m =>
          show packsE A (p :: r.set m ⟨(r[m]'(by simpa using hn)).nm, (r[m]'(by simpa using hn)).vr, (r[m]'(by simpa using hn)).nd ++ [noneN, noneN]⟩) = 13
          rw [packsE_cons, if_neg hp]
          exact ih m (by simpa using hn) _ hA
  exact key L n hn [] g3
theorem wrong_name : rightL [⟨⟨#[65]⟩, ⟨#[49]⟩, []⟩] = 17 := by
  unfold rightL
  rw [if_neg (by decide), packsE_cons]
  have e : packE [] ⟨⟨#[65]⟩, ⟨#[49]⟩, []⟩ = 17 := by
    unfold packE
    have h : rightP ⟨#[65]⟩ ⟨#[49]⟩ [] = 17 := by unfold rightP; rw [if_pos (by decide)]
    rw [h, if_pos (by decide)]
  rw [e, if_pos (by decide)]
end Go.Proofs.YtkbhckjpmgkgjaaGreatDoor
namespace Go.Proofs.YtkbhckjpmgkgjaaGreatDoor
open Go.RowKit

/-- Texts that lie in a block, from a place on. -/
structure TxB (w : World) (v : Value) (X : List ByteArray) (B : Nat) : Prop where
  ex : ∃ (a : Option Addr) (g off cap : Nat), v = .slice a X.length cap ∧ (0 < X.length → a = some ⟨g, off, none⟩ ∧ g < B) ∧ X.length ≤ cap ∧ (a = none → cap = 0) ∧ ∀ i (h : i < X.length), w.cell? ⟨g, off + i, none⟩ = some (.string X[i])
theorem TxB.keep {w w' : World} {v : Value} {X : List ByteArray} {B : Nat} (h : TxB w v X B) (hb : Below B w w') : TxB w' v X B := by
  obtain ⟨a, g, off, cap, h1, h2, h3, h5, h4⟩ := h.ex
  exact ⟨a, g, off, cap, h1, h2, h3, h5, fun i hi => (hb.cell (p := ⟨g, off + i, none⟩) (h2 (by omega)).2).trans (h4 i hi)⟩
theorem own_tx {w : World} {B n : Nat} {v : Value} {X : List ByteArray} (hn : X.length = n) (h : w.ownsRow B 9 1 v n (X.map Value.string)) : TxB w v X w.heap.size := by
  subst hn
  have h' := h
  obtain ⟨hl, ⟨rfl, h0⟩ | ⟨g, cap, cur, rfl, _, hrow, hnc, _, _, _⟩⟩ := h
  · refine ⟨none, 0, 0, 0, by rw [h0], fun h => absurd h (by omega), by omega, fun _ => rfl, fun i hi => absurd hi (by omega)⟩
  · refine ⟨some ⟨g, 0, none⟩, g, 0, cap, rfl, fun _ => ⟨rfl, (Array.getElem?_eq_some_iff.1 hrow).1⟩, hnc, (fun h => by cases h), fun i hi => ?_⟩
    rw [Nat.zero_add, h'.cellAt i (by omega), List.getElem?_map, List.getElem?_eq_getElem hi]
    rfl
/-- Sort of a copy. -/
theorem copy_own (w : World) : (w.alloc (.cells #[] 9)).ownsRow w.heap.size 9 1 (.slice (some ⟨w.heap.size, 0, none⟩) 0 0) 0 [] := World.ownsRow_lit w #[] 0 (Nat.le_refl _) (by unfold maxLen; omega) rfl
theorem cnt_le (l : List ByteArray) (x : ByteArray) (k : Nat) : (l.take k).count x ≤ k := Nat.le_trans List.count_le_length (by rw [List.length_take]; omega)
instance : LawfulBEq ByteArray where
  rfl := (MapKept.bytes_beq _ _).2 rfl
  eq_of_beq h := (MapKept.bytes_beq _ _).1 h
theorem cnt_more (l : List ByteArray) (x : ByteArray) (k : Nat) (hk : k < l.length) : (l.take (k + 1)).count x = (l.take k).count x + (if l[k] = x then 1 else 0) := by
  rw [List.take_add_one, List.getElem?_eq_getElem hk, List.count_append]
  by_cases h : l[k] = x
  · rw [if_pos h, h]; simp
  · rw [if_neg h]
    simp [h]
theorem eq_bytes {a b : ByteArray} (h : ¬ a = b) : ¬ a.toList = b.toList ∧ (a.toList == b.toList) = false := by
  have h1 : ¬ a.toList = b.toList := fun e => h (by
    rw [ByteArray.toList_eq, ByteArray.toList_eq] at e
    exact vb_inj e)
  exact ⟨h1, by simpa using h1⟩
theorem wpList_ap_allO {w : World} {ops : Array Oper} {rest : List Oper} {o : Oper} {a : Act} {Q : Exit → Act → World → Prop} (hgd : o.guard = none) (dd : Option Tmp) (hdd : o.dst = dd) (s x : Operand) (ho : o.op = .call { callee := .builtin .append, args := #[s, x], argTypes := #[38, 38] }) (B : Nat) (v : Value) (n : Nat) (xs : List Value) (hs : a.eval s = v) (hown : w.ownsRow B 9 1 v n xs) (ra : Option Addr) (rg off len cap : Nat) (X : List ByteArray) (hX : X.length = len) (hx : a.eval x = .slice ra len cap) (hat : 0 < len → ra = some ⟨rg, off, none⟩) (hnone : ra = none → len = 0 ∧ cap = 0) (hcell : ∀ t u, (X.map Value.string)[t]? = some u → w.cell? ⟨rg, off + t, none⟩ = some u) (hB : B ≤ w.heap.size) (hby : (n + len) * 16 ≤ 140737488355328)
    (h : ∀ v' w', w'.ownsRow B 9 1 v' (n + len) (xs ++ X.map Value.string) → w.grownBy w' v.ownBlock → wpList Tryz.prog ops Q rest (a.put dd v') w') : wpList Tryz.prog ops Q (o :: rest) a w :=
  wpList_plain hgd fun K hK => wp_append_any dd hdd s x 38 9 (.string ⟨#[]⟩) 1 16 Tryz.underlying38 info9 rfl (by decide) ho B v n xs hs hown ra rg off len cap (X.map Value.string) (by simp [hX]) hx hat hcell (fun u hu => by obtain ⟨y, _, rfl⟩ := List.mem_map.1 hu; rfl) hnone (by unfold maxLen; omega) hby hB (fun v' w' h1 h2 _ => hK _ _ (h v' w' h1 h2))
theorem sort_own {w : World} {B : Nat} {v : Value} {X : List ByteArray} (h : w.ownsRow B 9 1 v X.length (X.map Value.string)) (hn : X.length ≤ 1000) (he : ∀ x ∈ X, x.size ≤ 140737488355328) (hT : Pw w) : Calls Tryz.prog 33 #[v] w (SortPost X w) := by
  obtain ⟨a, g, off, cap, rfl, h2, h3, _, h4⟩ := (own_tx rfl h).ex
  exact sort_ok X a cap w ⟨⟨g, off, fun hh => (h2 hh).1, h4⟩, h3, he⟩ hn hT
theorem sorted_len {vs : List Ver} {L : List ByteArray} (h : vs.Perm (versOf L)) : (sortedT vs L).length = L.length := (sorted_perm h).length_eq
end Go.Proofs.YtkbhckjpmgkgjaaGreatDoor
namespace Go.Proofs.YtkbhckjpmgkgjaaGreatDoor
open Go.RowKit

/-- A version put in at a place. -/
def insV (us : List Ver) (k : Nat) (v : Ver) : List Ver := us.take k ++ v :: us.drop k
theorem insV_len (us : List Ver) (k : Nat) (v : Ver) (h : k ≤ us.length) : (insV us k v).length = us.length + 1 := by
  unfold insV
  rw [List.length_append, List.length_cons, List.length_take, List.length_drop]
  omega
theorem insV_perm {us P : List Ver} (k : Nat) (v : Ver) (h : us.Perm P) : (insV us k v).Perm (P ++ [v]) := by
  unfold insV
  refine List.perm_middle.trans ?_
  rw [List.take_append_drop]
  exact (h.cons v).trans (List.perm_append_singleton v P).symm
theorem insV_falls {us : List Ver} {k : Nat} {v : Ver} (hf : Falls us) (h1 : ∀ j (hj : j < us.length), j < k → 0 ≤ cmpV us[j] v) (h2 : ∀ hk : k < us.length, cmpV us[k] v < 0) : Falls (insV us k v) := by
  unfold insV Falls
  rw [List.pairwise_append]
  have hs : (us.take k ++ us.drop k).Pairwise fun a b => 0 ≤ cmpV a b := by rw [List.take_append_drop]; exact hf
  obtain ⟨p1, p2, p3⟩ := List.pairwise_append.1 hs
  refine ⟨p1, List.Pairwise.cons (fun b hb => ?_) p2, fun a ha b hb => ?_⟩
  · obtain ⟨j, hj, rfl⟩ := List.mem_iff_getElem.1 hb
    rw [List.getElem_drop]
    have hk : k < us.length := by rw [List.length_drop] at hj; omega
    have a2 := h2 hk
    have e : ∀ i (hi : i < us.length), k ≤ i → cmpV us[i] us[k] ≤ 0 := fun i hi hki => by
      by_cases he : i = k
      · subst he
        rw [(cmpV_zero _ _).2 rfl]
        exact Int.le_refl 0
      · have := List.pairwise_iff_getElem.1 hf k i hk hi (by omega)
        have := preV.anti us[k] us[i]
        omega
    have a3 := e (k + j) (by rw [List.length_drop] at hj; omega) (by omega)
    have a4 := preV.tr (us[k + j]'(by rw [List.length_drop] at hj; omega)) us[k] v a3 (by omega)
    have a5 := preV.anti (us[k + j]'(by rw [List.length_drop] at hj; omega)) v
    omega
  · rcases List.mem_cons.1 hb with rfl | hb
    · obtain ⟨j, hj, rfl⟩ := List.mem_iff_getElem.1 ha
      rw [List.getElem_take]
      rw [List.length_take] at hj
      exact h1 j (by omega) (by omega)
    · exact p3 a ha b hb
abbrev txV (us : List Ver) : List Value := us.map fun v => Value.string (tx (textV v))
theorem own_take {w : World} {B n k c : Nat} {a : Option Addr} {xs : List Value} (h : w.ownsRow B 9 1 (.slice a n c) n xs) (hk : k ≤ n) : w.ownsRow B 9 1 (.slice a k c) k (xs.take k) := by
  obtain ⟨hl, ⟨h1, h0⟩ | ⟨g, cap, cur, h1, hb, hrow, hnc, hcm, hsz, htk⟩⟩ := h
  · simp only [Value.slice.injEq] at h1
    obtain ⟨rfl, _, rfl⟩ := h1
    obtain rfl : k = 0 := by omega
    exact ⟨by simp, Or.inl ⟨rfl, rfl⟩⟩
  · simp only [Value.slice.injEq] at h1
    obtain ⟨rfl, _, rfl⟩ := h1
    refine ⟨by rw [List.length_take, hl]; omega, Or.inr ⟨g, c, cur, rfl, hb, hrow, by omega, hcm, hsz, ?_⟩⟩
    rw [← htk, List.take_take, Nat.mul_one, Nat.mul_one, Nat.min_eq_left hk]
/-- What holds ahead of each round. -/
structure RsW (w wr : World) (L : List ByteArray) (i : Nat) (us : List Ver) (ov rv : Value) : Prop where
  perm : us.Perm (versOf (L.take i))
  falls : Falls us
  out : wr.ownsRow w.heap.size 9 1 ov us.length (txV us)
  rest : wr.ownsRow w.heap.size 9 1 rv (restOf (L.take i)).length ((restOf (L.take i)).map Value.string)
  sep : ∀ k, ov.ownBlock = some k → rv.ownBlock ≠ some k
  old : Below w.heap.size w wr
theorem own_belowS {w w' : World} {B n : Nat} {v : Value} {xs : List Value} (h : w.ownsRow B 9 1 v n xs) (hb : Below w.heap.size w w') : w'.ownsRow B 9 1 v n xs := by
  obtain ⟨h0, h1 | ⟨g, cap, cur, rfl, hB, hrow, r⟩⟩ := h
  · exact ⟨h0, Or.inl h1⟩
  · exact ⟨h0, Or.inr ⟨g, cap, cur, rfl, hB, (hb.block g (Array.getElem?_eq_some_iff.1 hrow).1).trans hrow, r⟩⟩
theorem RsW.next {w wr w' : World} {L : List ByteArray} {i : Nat} {us : List Ver} {ov rv : Value} (h : RsW w wr L i us ov rv) (hb : Below wr.heap.size wr w') : RsW w w' L i us ov rv :=
  ⟨h.perm, h.falls, own_belowS h.out hb, own_belowS h.rest hb, h.sep, h.old.trans (hb.mono h.old.size)⟩
theorem own_lt {w : World} {B n : Nat} {v : Value} {xs : List Value} (h : w.ownsRow B 9 1 v n xs) : ∀ k, v.ownBlock = some k → B ≤ k ∧ k < w.heap.size := fun k hk => by
  obtain ⟨h0, ⟨rfl, _⟩ | ⟨g, cap, cur, rfl, hb, hrow, r⟩⟩ := h
  · cases hk
  · simp only [Value.ownBlock, Option.some.injEq] at hk
    subst hk
    exact ⟨hb, (Array.getElem?_eq_some_iff.1 hrow).1⟩
theorem own_keepG {w w' : World} {B n : Nat} {v : Value} {xs : List Value} {row : Option Nat} (h : w.ownsRow B 9 1 v n xs) (hg : w.grownBy w' row) (hs : ∀ k, v.ownBlock = some k → row ≠ some k) : w'.ownsRow B 9 1 v n xs := by
  obtain ⟨h0, h1 | ⟨g, cap, cur, rfl, hB, hrow, r⟩⟩ := h
  · exact ⟨h0, Or.inl h1⟩
  · exact ⟨h0, Or.inr ⟨g, cap, cur, rfl, hB, (hg.block g (Array.getElem?_eq_some_iff.1 hrow).1 (fun e => hs g rfl e.symm)).trans hrow, r⟩⟩
theorem wpList_ap_oneS {w w1 : World} {ops : Array Oper} {rest : List Oper} {o : Oper} {a : Act} {Q : Exit → Act → World → Prop} (hgd : o.guard = none) (dd : Option Tmp) (hdd : o.dst = dd) (s x : Operand) (ho : o.op = .call { callee := .builtin .append, args := #[s, x], argTypes := #[38, 38] }) (B : Nat) (v : Value) (n : Nat) (xs : List Value) (hs : a.eval s = v) (t : ByteArray) (hw : w1 = w.alloc (.cells #[.string t] 9)) (g : Nat) (hg : g = w.heap.size) (hown : w1.ownsRow B 9 1 v n xs) (hx : a.eval x = .slice (some ⟨g, 0, none⟩) 1 1) (hB : B ≤ w.heap.size) (hby : (n + 1) * 16 ≤ 140737488355328)
    (h : ∀ v' w', w'.ownsRow B 9 1 v' (n + 1) (xs ++ [.string t]) → w1.grownBy w' v.ownBlock → (v'.ownBlock = v.ownBlock ∨ v'.ownBlock = some w1.heap.size) → wpList Tryz.prog ops Q rest (a.put dd v') w') : wpList Tryz.prog ops Q (o :: rest) a w1 := by
  subst hw hg
  refine wpList_plain hgd fun K hK => wp_append_any dd hdd s x 38 9 (.string ⟨#[]⟩) 1 16 Tryz.underlying38 info9 rfl (by decide) ho B v n xs hs hown (some ⟨w.heap.size, 0, none⟩) w.heap.size 0 1 1 [.string t] rfl hx (fun _ => rfl) (fun j u hj => ?_) (fun u hu => by rw [List.mem_singleton.1 hu]; rfl) (fun h => nomatch h) (by unfold maxLen; omega) hby (by simp; omega) (fun v' w' h1 h2 h3 => hK _ _ (h v' w' h1 h2 h3))
  rw [Nat.zero_add, Row.cell (Row.new w #[.string t] 9) j]
  show ([Value.string t].toArray)[j]? = _
  rw [List.getElem?_toArray]
  exact hj
end Go.Proofs.YtkbhckjpmgkgjaaGreatDoor
namespace Go.Proofs.YtkbhckjpmgkgjaaGreatDoor
open Go.RowKit

theorem slice_form {w : World} {B n : Nat} {v : Value} {xs : List Value} (h : w.ownsRow B 9 1 v n xs) : ∃ (a : Option Addr) (g c : Nat), v = .slice a n c ∧ n ≤ c ∧ (0 < n → a = some ⟨g, 0, none⟩) ∧ (a = none → c = 0) ∧ (∀ g', a = some g' → g' = ⟨g, 0, none⟩) ∧ ∀ j, j < n → w.cell? ⟨g, j, none⟩ = xs[j]? := by
  have h' := h
  obtain ⟨hl, ⟨rfl, h0⟩ | ⟨g, cap, cur, rfl, _, hrow, hnc, _, _, _⟩⟩ := h
  · exact ⟨none, 0, 0, by rw [h0], by omega, fun h => absurd h (by omega), fun _ => rfl, (fun _ h => by cases h), fun j hj => absurd hj (by omega)⟩
  · exact ⟨some ⟨g, 0, none⟩, g, cap, rfl, hnc, fun _ => rfl, (fun h => by cases h), (fun _ h => (Option.some.inj h).symm), fun j hj => h'.cellAt j (by omega)⟩
set_option maxRecDepth 40000 in
set_option maxHeartbeats 16000000 in
theorem refSort_ok (L : List ByteArray) (la : Option Addr) (lc : Nat) (w : World) (hL : TxB w (.slice la L.length lc) L w.heap.size) (he : ∀ x ∈ L, x.size ≤ 140737488355328) (hll : L.length ≤ 1000) : Calls Tryz.prog 34 #[.slice la L.length lc] w (SortPost L w) := by
  obtain ⟨a0, b, off, c0, hL1, hL2, hL3, hL5, hL4⟩ := hL.ex
  simp only [Value.slice.injEq] at hL1
  obtain ⟨rfl, _, rfl⟩ := hL1
  have HLA : Hid (0 < L.length → la = some ⟨b, off, none⟩) := fun h => (hL2 h).1
  have HLC : Hid (∀ wx, Below w.heap.size w wx → ∀ i (h : i < L.length), wx.cell? ⟨b, off + i, none⟩ = some (.string L[i])) := fun wx hx i h => (hx.cell (p := ⟨b, off + i, none⟩) (hL2 (by omega)).2).trans (hL4 i h)
  have HE : Hid (∀ x ∈ L, x.size ≤ 140737488355328) := he
  obtain ⟨n, hn⟩ : ∃ n, n = L.length := ⟨_, rfl⟩
  have HN : Hid (n = L.length) := hn
  have hnl : L.length = n := hn.symm
  rw [hnl] at hL3 hll ⊢
  have HW0 : Hid (RsW w w L 0 [] (.slice none 0 0) (.slice none 0 0)) := ⟨by rw [List.take_zero]; exact List.Perm.refl _, List.Pairwise.nil, World.ownsRow_nil _ _ _ _, by rw [List.take_zero]; exact World.ownsRow_nil _ _ _ _, (fun _ h => by cases h), Below.refl _ _⟩
  clear hL hL2 hL4 hL5 hn hnl he
  go_enter Tryz.func34, Tryz.ntmps34
  go_wp2
  go_loopw [3, 4, 5] (fun s3 s4 s5 wq => ∃ (i : Nat) (us : List Ver), i ≤ n ∧ s5 = .int .i64 i ∧ RsW w wq L i us s3 s4) (fun _ _ s5 _ => n - (intOf s5).toNat)
  case atStart => exact ⟨0, [], Nat.zero_le _, rfl, HW0.out⟩
  case round =>
    obtain ⟨i, us, hi, rfl, hR⟩ := hrel
    have HR : Hid (RsW w wr L i us u3 u4) := hR
    clear hR HW0
    by_cases hin : i < n
    · have hin' : (i : Int) < (n : Int) := by omega
      have hiL : i < L.length := by have := HN.out; omega
      obtain rfl := HLA.out (by omega)
      have hli := HLC.out wr HR.out.old i hiL
      have hsz := HE.out L[i] (List.getElem_mem hiL)
      have HTk : Hid (L.take (i + 1) = L.take i ++ [L[i]]) := by show _ = _; rw [List.take_add_one, List.getElem?_eq_getElem hiL]; rfl
      obtain ⟨s, hs⟩ : ∃ s, s = L[i] := ⟨_, rfl⟩
      have HSI : Hid (L[i] = s) := hs.symm
      rw [← hs] at hli hsz HTk
      have hpa := refParse_ok s wr hsz
      clear hs
      cases hp : parseV (vb s) with
      | none =>
        rw [parseE_no hp] at hpa
        obtain ⟨hv0, hr0⟩ := restOf_snoc (L.take i) s hp
        rw [← HTk.out] at hv0 hr0
        have HV0 : Hid (versOf (L.take (i + 1)) = versOf (L.take i)) := hv0
        have HR0 : Hid (restOf (L.take (i + 1)) = restOf (L.take i) ++ [s]) := hr0
        clear hp hv0 hr0
        go_wp2_with fail
        refine hpa.mono ?_
        rintro e w1 ⟨rfl, hb1⟩
        have hR1 : RsW w (w1.alloc (.cells zeroC 104)) L i us u3 u4 := (HR.out.next hb1).next ((Below.refl _ _).alloc (Nat.le_refl _) _)
        have HR1 : Hid (RsW w (w1.alloc (.cells zeroC 104)) L i us u3 u4) := hR1
        have hli1 := HLC.out _ hR1.old i hiL
        rw [HSI.out] at hli1
        clear hpa hb1 hR1 hli
        go_upto_region 7 with (refine wpList_store_new rfl 104 _ _ rfl w1 zeroC (verC zeroV) 104 rfl w1.heap.size rfl rfl rfl infoRs rfl (verC_one _) ?_)
        obtain ⟨w2, hw2⟩ : ∃ x, x = w1.alloc (.cells zeroC 104) := ⟨_, rfl⟩
        rw [← hw2] at HR1 hli1
        rw [show w1.alloc (.cells (verC zeroV) 104) = w2 from hw2.symm]
        have hown : (w2.alloc (.cells #[.string s] 9)).ownsRow w.heap.size 9 1 u4 (restOf (L.take i)).length ((restOf (L.take i)).map Value.string) := own_belowS (RsW.rest HR1.out) ((Below.refl _ _).alloc (Nat.le_refl _) _)
        have hout3 : (w2.alloc (.cells #[.string s] 9)).ownsRow w.heap.size 9 1 u3 us.length (txV us) := own_belowS (RsW.out HR1.out) ((Below.refl _ _).alloc (Nat.le_refl _) _)
        have HO3 : Hid ((w2.alloc (.cells #[.string s] 9)).ownsRow w.heap.size 9 1 u3 us.length (txV us)) := hout3
        have hlow : w.heap.size ≤ w2.heap.size := (RsW.old HR1.out).size
        have hrl : ((restOf (L.take i)).length + 1) * 16 ≤ 140737488355328 := by
          have h1 := versOf_len (L.take i)
          rw [List.length_take] at h1
          omega
        clear hw2 hout3
        go_wp2_with (at_builtin; refine wpList_ap_oneS rfl (some 34) rfl _ _ rfl w.heap.size u4 (restOf (L.take i)).length ((restOf (L.take i)).map Value.string) rfl s rfl w2.heap.size rfl hown rfl hlow hrl ?_; intro v5 w5 ho5 hg5 hb5)
        have HN5 : Hid (RsW w w5 L (i + 1) us u3 v5) := by
          refine ⟨by rw [HV0.out]; exact (RsW.perm HR1.out), RsW.falls HR1.out, own_keepG HO3.out hg5 (fun k hk e => (RsW.sep HR1.out) k hk e), ?_, fun k hk e => ?_, ?_⟩
          · rw [HR0.out, List.length_append, List.map_append]
            exact ho5
          · have h3 := (own_lt HO3.out k hk).2
            rcases hb5 with h | h
            · exact (RsW.sep HR1.out) k hk (h ▸ e)
            · rw [h] at e
              have := Option.some.inj e
              omega
          · have h1 : Below w.heap.size w (w2.alloc (.cells #[.string s] 9)) := (RsW.old HR1.out).alloc hlow _
            exact h1.trans (below_own hg5 h1.size (fun k hk => (own_lt (RsW.rest HR1.out) k hk).1))
        clear ho5 hg5 hb5
        go_roundw
        case rel => exact ⟨i + 1, us, by omega, by go_num, HN5.out⟩
        case measure => simp [intOf]; omega
      | some v =>
        rw [parseE_yes hp] at hpa
        obtain ⟨hv0, hr0⟩ := versOf_snoc (L.take i) s hp
        rw [← HTk.out] at hv0 hr0
        have HV0 : Hid (versOf (L.take (i + 1)) = versOf (L.take i) ++ [v]) := hv0
        have HR0 : Hid (restOf (L.take (i + 1)) = restOf (L.take i)) := hr0
        have HTX : Hid (tx (textV v) = s) := text_of hp
        have HMU : Hid (∀ u ∈ us, parseV (textV u) = some u ∧ (textV u).length ≤ 140737488355328) := fun u hu => by
          have h1 : u ∈ versOf (L.take i) := HR.out.perm.mem_iff.1 hu
          have h2 := parse_vers h1
          have h3 := (mayV_iff u).1 (vers_may h1)
          have h4 := join_small h3
          refine ⟨h2, ?_⟩
          unfold textV
          rw [List.length_append]
          have h5 : (tagT (vb u.tag)).length ≤ 13 := by
            unfold tagT
            split
            · simp
            · rename_i hne
              have h6 := h3.tag.resolve_left hne
              unfold tagB at h6
              simp only [Bool.and_eq_true, decide_eq_true_eq] at h6
              rw [List.length_cons]
              omega
          omega
        clear hp hv0 hr0
        go_wp2_with fail
        refine hpa.mono ?_
        rintro e w1 ⟨rfl, hb1⟩
        have hR2 : RsW w (w1.alloc (.cells (verC v) 104)) L i us u3 u4 := (HR.out.next hb1).next ((Below.refl _ _).alloc (Nat.le_refl _) _)
        have hV2 : Row (w1.alloc (.cells (verC v) 104)) w1.heap.size (verC v) 104 := Row.new _ _ _
        clear hpa hb1 hli
        go_upto_region 8 with (refine wpList_store_new rfl 104 _ _ rfl w1 zeroC (verC v) 104 rfl w1.heap.size rfl rfl rfl infoRs rfl (verC_one _) ?_)
        obtain ⟨w2, hw2⟩ : ∃ x, x = w1.alloc (.cells (verC v) 104) := ⟨_, rfl⟩
        rw [← hw2] at hR2 hV2
        rw [← hw2]
        obtain ⟨k0, hk0⟩ : ∃ k, k = w1.heap.size := ⟨_, rfl⟩
        rw [← hk0] at hV2
        rw [← hk0]
        clear hw2 hk0
        have HR2 : Hid (RsW w w2 L i us u3 u4) := hR2
        have HVB : Hid (∀ wx, Below w2.heap.size w2 wx → Row wx k0 (verC v) 104) := fun wx hx => hV2.below hx hV2.lt
        obtain ⟨oa, og, oc, hu3, hoc, hoa, hon, hoz, hocell⟩ := slice_form hR2.out
        have hogl : 0 < us.length → og < w2.heap.size := fun h => (own_lt hR2.out og (by rw [hu3, hoa h]; rfl)).2
        have HOC : Hid (∀ wx, Below w2.heap.size w2 wx → ∀ j (h : j < us.length), wx.cell? ⟨og, j, none⟩ = some (.string (tx (textV us[j])))) := fun wx hx j h => by
          rw [hx.cell (p := ⟨og, j, none⟩) (hogl (by omega)), hocell j h, List.getElem?_map, List.getElem?_eq_getElem h]
          rfl
        have HOA : Hid (0 < us.length → oa = some ⟨og, 0, none⟩) := hoa
        have HON : Hid (oa = none → oc = 0) := hon
        have HOZ : Hid (∀ g', oa = some g' → g' = ⟨og, 0, none⟩) := hoz
        subst hu3
        obtain ⟨m, hm⟩ : ∃ m, m = us.length := ⟨_, rfl⟩
        have HM : Hid (m = us.length) := hm
        have hmm : us.length = m := hm.symm
        have hml : m ≤ n := by
          have h1 := versOf_len (L.take i)
          have h2 := hR2.perm.length_eq
          rw [List.length_take] at h1
          omega
        rw [hmm] at hoc HR2 ⊢
        clear hR2 hV2 hoa hon hoz hocell hogl hm hmm HR
        go_wp2
        go_loopw [8] (fun s8 wq => ∃ k : Nat, k ≤ m ∧ s8 = .int .i64 k ∧ (∀ j (hj : j < us.length), j < k → 0 ≤ cmpV us[j] v) ∧ Below w2.heap.size w2 wq) (fun s8 _ => m - (intOf s8).toNat)
        case atStart => exact ⟨0, Nat.zero_le _, rfl, fun j _ hj => absurd hj (by omega), Below.refl _ _⟩
        case round =>
          obtain ⟨k, hk, rfl, hge, hB⟩ := hrel
          have HGE : Hid (∀ j (hj : j < us.length), j < k → 0 ≤ cmpV us[j] v) := hge
          have HB : Hid (Below w2.heap.size w2 wr) := hB
          clear hge hB
          by_cases hkm : k < m
          · have hkm' : (k : Int) < (m : Int) := by omega
            have hkU : k < us.length := by have := HM.out; omega
            obtain rfl := HOA.out (by omega)
            have hck := HOC.out wr HB.out k hkU
            obtain ⟨hpu, hpl⟩ := HMU.out us[k] (List.getElem_mem hkU)
            have HUK : Hid (∀ c : Ver, c = us[k] → (¬ cmpV c v < 0 → ∀ j (hj : j < us.length), j < k + 1 → 0 ≤ cmpV us[j] v) ∧ (cmpV c v < 0 → ∀ hk : k < us.length, cmpV us[k] v < 0)) := fun c hc => by
              subst hc
              refine ⟨fun h j hj hjk => ?_, fun h _ => h⟩
              by_cases e : j = k
              · subst e; omega
              · exact HGE.out j hj (by omega)
            obtain ⟨u, hu⟩ : ∃ u, u = us[k] := ⟨_, rfl⟩
            have HU := HUK.out u hu
            rw [← hu] at hck hpu hpl
            have hpk := refParse_ok (tx (textV u)) wr (by rw [tx_size]; exact hpl)
            rw [parseE_yes (by rw [vb_tx]; exact hpu)] at hpk
            obtain ⟨t, ht⟩ : ∃ t, t = tx (textV u) := ⟨_, rfl⟩
            rw [← ht] at hck hpk
            clear hu hpu hpl ht HUK
            have HUH : Hid _ := HU
            clear HU
            go_wp2_with fail
            refine hpk.mono ?_
            rintro e w3 ⟨rfl, hb3⟩
            have hq3 : Below wr.heap.size wr (w3.alloc (.cells (verC u) 104)) := hb3.alloc hb3.size _
            have hB3 : Below w2.heap.size w2 (w3.alloc (.cells (verC u) 104)) := HB.out.trans (hq3.mono HB.out.size)
            have hvb := HVB.out _ hB3
            have hub : Row (w3.alloc (.cells (verC u) 104)) w3.heap.size (verC u) 104 := Row.new _ _ _
            have HB3 : Hid (Below w2.heap.size w2 (w3.alloc (.cells (verC u) 104))) := hB3
            clear hpk hb3 hq3 hck hB3
            go_upto_region 11 with (refine wpList_store_new rfl 104 _ _ rfl w3 zeroC (verC u) 104 rfl w3.heap.size rfl rfl rfl infoRs rfl (verC_one _) ?_)
            obtain ⟨w4, hw4⟩ : ∃ x, x = w3.alloc (.cells (verC u) 104) := ⟨_, rfl⟩
            rw [← hw4] at hvb hub HB3
            rw [← hw4]
            clear hw4
            have hcm := refCompare_ok u v w4
            obtain ⟨cz, hcz⟩ : ∃ c, c = cmpV u v := ⟨_, rfl⟩
            rw [← hcz] at hcm HUH
            clear hcz
            by_cases hc0 : cz < 0
            · have HK2 : Hid (∀ hk : k < us.length, cmpV us[k] v < 0) := HUH.out.2 hc0
              go_upto_region 13 with (first | refine wpList_load_row rfl 104 _ rfl w3.heap.size rfl 104 (verC u) (0, 0) _ hub Tryz.underlying104 rfl infoRs ?_ | refine wpList_load_row rfl 104 _ rfl k0 rfl 104 (verC v) (0, 0) _ hvb Tryz.underlying104 rfl infoRs ?_ | (go_at_call 63; refine hcm.mono ?_; rintro e wz ⟨rfl, hbz⟩))
              have HZ : Hid (Below w2.heap.size w2 wz) := HB3.out.trans (hbz.mono HB3.out.size)
              clear hbz hcm hub hvb
              by_cases hok : oc = k
              · omega
              · have HRz : Hid (RsW w wz L i us (.slice (some ⟨og, 0, none⟩) m oc) u4) := RsW.next HR2.out HZ.out
                have hownz : wz.ownsRow w.heap.size 9 1 (.slice (some ⟨og, 0, none⟩) m oc) m (txV us) := by
                  have h := RsW.out HRz.out
                  rw [← HM.out] at h
                  exact h
                have hown1 := copy_own wz
                have hs1 : wz.heap.size ≤ (wz.alloc (.cells #[] 9)).heap.size := by simp
                have hXl : ((us.drop k).map fun v => tx (textV v)).length = m - k := by rw [List.length_map, List.length_drop, ← HM.out]
                have hcl : ∀ t u, (((us.drop k).map fun v => tx (textV v)).map Value.string)[t]? = some u → (wz.alloc (.cells #[] 9)).cell? ⟨og, k + t, none⟩ = some u := fun t u ht => by
                  have htl : t < m - k := by
                    have := (List.getElem?_eq_some_iff.1 ht).1
                    rw [List.length_map, hXl] at this
                    exact this
                  have hkt : k + t < us.length := by have := HM.out; omega
                  rw [HOC.out _ (HZ.out.alloc HZ.out.size _) (k + t) hkt]
                  rw [List.getElem?_map, List.getElem?_map, List.getElem?_drop, List.getElem?_eq_getElem hkt] at ht
                  exact ht
                have hat : 0 < m - k → ((some ⟨og, k, none⟩) : Option Addr) = some ⟨og, k, none⟩ := fun _ => rfl
                have hnn : ((some ⟨og, k, none⟩) : Option Addr) = none → m - k = 0 ∧ oc - k = 0 := fun h => by cases h
                have HLZ : Hid (Below w.heap.size w wz) := RsW.old HRz.out
                have hkoc : ¬ oc = k := hok
                have hkoc2 : (k : Int) ≤ (oc : Int) := by omega
                have hkoc3 : (k : Int) ≤ (m : Int) := by omega
                go_upto_region 13 with fail
                go_wp2_with (at_builtin; refine wpList_ap_allO rfl (some 57) rfl _ _ rfl wz.heap.size (.slice (some ⟨wz.heap.size, 0, none⟩) 0 0) 0 [] rfl hown1 (some ⟨og, k, none⟩) og k (m - k) (oc - k) ((us.drop k).map fun v => tx (textV v)) hXl rfl hat hnn hcl hs1 (by omega) ?_; intro v6 w6 ho6 hg6)
                have hq6 : Below wz.heap.size wz w6 := ((Below.refl wz.heap.size wz).alloc (Nat.le_refl _) (.cells #[] 9)).trans (below_own hg6 hs1 (fun j hj => by simp only [Value.ownBlock, Option.some.injEq] at hj; omega))
                rw [Nat.zero_add, List.nil_append] at ho6
                have HR6 : Hid (RsW w w6 L i us (.slice (some ⟨og, 0, none⟩) m oc) u4) := RsW.next HRz.out hq6
                have hown6 : w6.ownsRow w.heap.size 9 1 (.slice (some ⟨og, 0, none⟩) m oc) m (txV us) := own_belowS hownz hq6
                obtain ⟨ta, tg, tc, hv6, htc, hta, htn, _, htcell⟩ := slice_form ho6
                have htg : 0 < m - k → wz.heap.size ≤ tg ∧ tg < w6.heap.size := fun h => own_lt ho6 tg (by rw [hv6, hta h]; rfl)
                have hownk := own_take hown6 hk
                have HOGZ : Hid (∀ g, (Value.slice (some ⟨og, 0, none⟩) k oc).ownBlock = some g → g < wz.heap.size) := fun g hg => (own_lt (own_take hownz hk) g hg).2
                subst hv6
                have HB6 : Hid (Below w.heap.size w w6) := RsW.old HR6.out
                have hs67 : Below w6.heap.size w6 (w6.drew.alloc (.cells #[.string s] 9)) := ((Below.refl _ _).drew).alloc (Nat.le_refl _) _
                have hown7 : (w6.drew.alloc (.cells #[.string s] 9)).ownsRow w.heap.size 9 1 (.slice (some ⟨og, 0, none⟩) k oc) k ((txV us).take k) := own_belowS hownk hs67
                have hrest7 : (w6.drew.alloc (.cells #[.string s] 9)).ownsRow w.heap.size 9 1 u4 (restOf (L.take i)).length ((restOf (L.take i)).map Value.string) := own_belowS (RsW.rest HR6.out) hs67
                have HRest : Hid (∀ g, u4.ownBlock = some g → g < w6.heap.size) := fun g hg => (own_lt (RsW.rest HR6.out) g hg).2
                have hsz7 : (w6.drew.alloc (.cells #[.string s] 9)).heap.size = w6.heap.size + 1 := by simp
                have HTC : Hid (∀ j, j < m - k → (w6.drew.alloc (.cells #[.string s] 9)).cell? ⟨tg, j, none⟩ = (((us.drop k).map fun v => tx (textV v)).map Value.string)[j]?) := fun j hj => (hs67.cell (p := ⟨tg, j, none⟩) (htg (by omega)).2).trans (htcell j hj)
                have hkc : (k : Int) ≤ (oc : Int) := by omega
                have HLS6 : Hid (∀ wx, Below w.heap.size w wx → wx.cell? ⟨b, off + i, none⟩ = some (.string s)) := fun wx hx => by rw [← HSI.out]; exact HLC.out wx hx i hiL
                have hlow6 : w.heap.size ≤ w6.heap.size := HB6.out.size
                clear hown1 hcl hs1 hXl hg6 hownz
                refine wp_region_permA [(false, 0), (false, 1), (false, 2), (false, 3), (false, 4), (false, 5), (false, 6), (false, 9), (true, 7), (true, 8), (true, 10), (true, 11)] (fun wx => Below w.heap.size w wx) (by kernel_rfl) (by kernel_rfl) (HB6.out.drew) ?_
                refine a_value (some 58) ?_ rfl rfl (by rfl) (fun w hw => ?_) ?_
                rotate_left
                · go_simp
                  with_reducible rfl
                simp only [Act.put, List.setIfInBounds_toArray, List.set_cons_zero, List.set_cons_succ]
                refine a_value (some 59) ?_ rfl rfl (by rfl) (fun w hw => ?_) ?_
                rotate_left
                · go_simp
                  with_reducible rfl
                simp only [Act.put, List.setIfInBounds_toArray, List.set_cons_zero, List.set_cons_succ]
                refine a_value (some 60) (.slice (some ⟨og, 0, none⟩) k oc) rfl rfl (by rfl) (fun w hw => ?_) ?_
                · go_simp
                simp only [Act.put, List.setIfInBounds_toArray, List.set_cons_zero, List.set_cons_succ]
                refine a_value (some 61) ?_ rfl rfl (by rfl) (fun w hw => ?_) ?_
                rotate_left
                · go_simp
                  with_reducible rfl
                simp only [Act.put, List.setIfInBounds_toArray, List.set_cons_zero, List.set_cons_succ]
                refine a_value (some 62) ?_ rfl rfl (by rfl) (fun w hw => ?_) ?_
                rotate_left
                · go_simp
                  with_reducible rfl
                simp only [Act.put, List.setIfInBounds_toArray, List.set_cons_zero, List.set_cons_succ]
                refine a_value (some 63) ?_ rfl rfl (by rfl) (fun w hw => ?_) ?_
                rotate_left
                · go_simp
                  with_reducible rfl
                simp only [Act.put, List.setIfInBounds_toArray, List.set_cons_zero, List.set_cons_succ]
                refine a_value (some 64) ?_ rfl rfl (by rfl) (fun w hw => ?_) ?_
                rotate_left
                · have hc := HLS6.out w hw
                  go_simp
                  with_reducible rfl
                simp only [Act.put, List.setIfInBounds_toArray, List.set_cons_zero, List.set_cons_succ]
                refine a_value (some 67) ?_ rfl rfl (by rfl) (fun w hw => ?_) ?_
                rotate_left
                · go_simp
                  with_reducible rfl
                simp only [Act.put, List.setIfInBounds_toArray, List.set_cons_zero, List.set_cons_succ]
                obtain ⟨w7, hw7⟩ : ∃ x, x = w6.drew.alloc (.cells #[.string s] 9) := ⟨_, rfl⟩
                have hS7 : Below w.heap.size w w7 := by rw [hw7]; exact (HB6.out.drew).alloc hlow6 _
                refine a_alone (some 65) (.slice (some ⟨w6.heap.size, 0, none⟩) 1 1) w7 rfl rfl (by rfl) (by rw [hw7]; go_simp) hS7 ?_
                simp only [Act.put, List.setIfInBounds_toArray, List.set_cons_zero, List.set_cons_succ]
                have hnew : ∀ j u, [Value.string s][j]? = some u → w7.cell? ⟨w6.heap.size, 0 + j, none⟩ = some u := fun j u hj => by
                  rw [hw7, Nat.zero_add]
                  have hr : Row (w6.drew.alloc (.cells #[.string s] 9)) w6.heap.size #[.string s] 9 := Row.new w6.drew _ _
                  rw [hr.cell j]
                  show ([Value.string s].toArray)[j]? = _
                  rw [List.getElem?_toArray]
                  exact hj
                rw [← hw7] at hown7 hrest7 hsz7 HTC
                refine a_wp rfl (by rfl) ?_
                refine wp_append_any (some 66) rfl (.tmp 60) (.tmp 65) 38 9 (.string ⟨#[]⟩) 1 16 Tryz.underlying38 info9 rfl (by decide) rfl w.heap.size (.slice (some ⟨og, 0, none⟩) k oc) k ((txV us).take k) rfl hown7 (some ⟨w6.heap.size, 0, none⟩) w6.heap.size 0 1 1 [.string s] rfl rfl (fun _ => rfl) hnew (fun u hu => by rw [List.mem_singleton.1 hu]; rfl) (fun h => nomatch h) (by unfold maxLen; omega) (by omega) (by omega) ?_
                intro v8 w8 ho8 hg8 hd8
                have hS8 : Below w.heap.size w w8 := hS7.trans (below_own hg8 hS7.size (fun g hg => (own_lt hown7 g hg).1))
                refine ⟨hS8, ?_⟩
                have htcl : ∀ j u, (((us.drop k).map fun v => tx (textV v)).map Value.string)[j]? = some u → w8.cell? ⟨tg, 0 + j, none⟩ = some u := fun j u hj => by
                  have hjl : j < m - k := by
                    have := (List.getElem?_eq_some_iff.1 hj).1
                    rw [List.length_map, List.length_map, List.length_drop, ← HM.out] at this
                    exact this
                  rw [Nat.zero_add]
                  refine hg8.cell (a := ⟨tg, j, none⟩) ((HTC.out j hjl).trans hj) (fun e => ?_)
                  have h1 := HOGZ.out tg e.symm
                  have := (htg (by omega)).1
                  omega
                have hrest8 : w8.ownsRow w.heap.size 9 1 u4 (restOf (L.take i)).length ((restOf (L.take i)).map Value.string) := own_keepG hrest7 hg8 (fun g hg e => RsW.sep HR6.out g e hg)
                have hd8' : ∀ g, u4.ownBlock = some g → v8.ownBlock ≠ some g := fun g hg e => by
                  have h1 := HRest.out g hg
                  rcases hd8 with h | h
                  · rw [h] at e
                    exact RsW.sep HR6.out g e hg
                  · rw [h] at e
                    have := Option.some.inj e
                    omega
                have hlen8 : (((us.drop k).map fun v => tx (textV v)).map Value.string).length = (m - k) * 1 := by rw [List.length_map, List.length_map, List.length_drop, ← HM.out, Nat.mul_one]
                have htn' : ta = none → m - k = 0 ∧ tc = 0 := fun h => ⟨by have := htn h; omega, htn h⟩
                simp only [Act.put, List.setIfInBounds_toArray, List.set_cons_zero, List.set_cons_succ]
                refine a_wp rfl (by rfl) ?_
                refine wp_append_any (some 68) rfl (.tmp 66) (.tmp 67) 38 9 (.string ⟨#[]⟩) 1 16 Tryz.underlying38 info9 rfl (by decide) rfl w.heap.size v8 (k + 1) ((txV us).take k ++ [.string s]) rfl ho8 ta tg 0 (m - k) tc (((us.drop k).map fun v => tx (textV v)).map Value.string) hlen8 rfl hta htcl (fun u hu => by obtain ⟨z, _, rfl⟩ := List.mem_map.1 hu; rfl) htn' (by unfold maxLen; omega) (by omega) hS8.size ?_
                intro v10 w10 ho10 hg10 hd10
                have hS10 : Below w.heap.size w w10 := hS8.trans (below_own hg10 hS8.size (fun g hg => (own_lt ho8 g hg).1))
                refine ⟨hS10, ?_⟩
                have HFin : Hid (RsW w w10 L (i + 1) (insV us k v) v10 u4) := by
                  refine ⟨by rw [HV0.out]; exact insV_perm k v (RsW.perm HR6.out), insV_falls (RsW.falls HR6.out) HGE.out HK2.out, ?_, ?_, fun g hg e => ?_, hS10⟩
                  · rw [insV_len us k v (by have := HM.out; omega)]
                    have h1 := ho10
                    rw [show k + 1 + (m - k) = us.length + 1 by have := HM.out; omega] at h1
                    rw [show txV (insV us k v) = (txV us).take k ++ [.string s] ++ ((us.drop k).map fun v => tx (textV v)).map Value.string by
                      unfold txV insV
                      rw [List.map_append, List.map_cons, HTX.out, List.map_take, List.map_map, List.append_assoc]
                      rfl]
                    exact h1
                  · rw [HR0.out]
                    exact own_keepG hrest8 hg10 hd8'
                  · have h1 := HRest.out g e
                    rcases hd10 with h | h
                    · rw [h] at hg
                      exact hd8' g e hg
                    · rw [h] at hg
                      have := Option.some.inj hg
                      have := hg8.size
                      omega
                simp only [Act.put, List.setIfInBounds_toArray, List.set_cons_zero, List.set_cons_succ]
                refine a_alone (some 3) v10 w10 rfl rfl (by rfl) (by go_simp) hS10 ?_
                simp only [Act.put, List.setIfInBounds_toArray, List.set_cons_zero, List.set_cons_succ]
                refine a_done ?_
                try simp only [Exit.then]
                clear ho10 hg10 hd10 ho8 hg8 hd8 htcl hrest8 hd8' hlen8 htn' hnew hown7 hrest7 htcell hta htn htg hownk hown6 hq6 ho6 hs67 hS7 hS8 hS10
                go_wp2
                go_roundw
                case rel => exact ⟨i + 1, insV us k v, by omega, by go_num, HFin.out⟩
                case measure => simp [intOf]; omega
            · have HG2 : Hid (∀ j (hj : j < us.length), j < k + 1 → 0 ≤ cmpV us[j] v) := HUH.out.1 (by omega)
              go_wp2_with (first | refine wpList_load_row rfl 104 _ rfl w3.heap.size rfl 104 (verC u) (0, 0) _ hub Tryz.underlying104 rfl infoRs ?_ | refine wpList_load_row rfl 104 _ rfl k0 rfl 104 (verC v) (0, 0) _ hvb Tryz.underlying104 rfl infoRs ?_ | (go_at_call 63; refine hcm.mono ?_; rintro e wz ⟨rfl, hbz⟩))
              go_roundw
              case rel => exact ⟨k + 1, by omega, by go_num, HG2.out, HB3.out.trans (hbz.mono HB3.out.size)⟩
              case measure => simp [intOf]; omega
          · have hkm' : ¬ (k : Int) < (m : Int) := by omega
            have HK2 : Hid (∀ hk : k < us.length, cmpV us[k] v < 0) := fun h => by have := HM.out; omega
            have HZ : Hid (Below w2.heap.size w2 wr) := HB.out
            cases oa with
            | none =>
              have hoc0 : oc = 0 := HON.out rfl
              have hm0 : m = 0 := by
                by_cases h0 : 0 < us.length
                · cases HOA.out h0
                · have := HM.out
                  omega
              obtain rfl : k = 0 := by omega
              subst hoc0 hm0
              have HRz : Hid (RsW w wr L i us (.slice none 0 0) u4) := RsW.next HR2.out HZ.out
              have hownz : wr.ownsRow w.heap.size 9 1 (.slice none 0 0) 0 (txV us) := by
                have h := RsW.out HRz.out
                rw [← HM.out] at h
                exact h
              have hown1 := copy_own wr
              have hs1 : wr.heap.size ≤ (wr.alloc (.cells #[] 9)).heap.size := by simp
              have hXl : ([] : List ByteArray).length = 0 := rfl
              have hcl : ∀ t u, (([] : List ByteArray).map Value.string)[t]? = some u → (wr.alloc (.cells #[] 9)).cell? ⟨og, 0 + t, none⟩ = some u := fun t u ht => by simp at ht
              have HDN : Hid (us.drop 0 = []) := List.drop_of_length_le (by have := HM.out; omega)
              have hat : 0 < 0 → (none : Option Addr) = some ⟨og, 0, none⟩ := fun h => absurd h (by omega)
              have hnn : (none : Option Addr) = none → 0 = 0 ∧ 0 = 0 := fun _ => by omega
              have HLZ : Hid (Below w.heap.size w wr) := RsW.old HRz.out

              go_upto_region 13 with fail
              go_wp2_with (at_builtin; refine wpList_ap_allO rfl (some 57) rfl _ _ rfl wr.heap.size (.slice (some ⟨wr.heap.size, 0, none⟩) 0 0) 0 [] rfl hown1 none og 0 (0) (0) ([] : List ByteArray) hXl rfl hat hnn hcl hs1 (by omega) ?_; intro v6 w6 ho6 hg6)
              have hq6 : Below wr.heap.size wr w6 := ((Below.refl wr.heap.size wr).alloc (Nat.le_refl _) (.cells #[] 9)).trans (below_own hg6 hs1 (fun j hj => by simp only [Value.ownBlock, Option.some.injEq] at hj; omega))
              rw [Nat.zero_add, List.nil_append] at ho6
              have HR6 : Hid (RsW w w6 L i us (.slice none 0 0) u4) := RsW.next HRz.out hq6
              have hown6 : w6.ownsRow w.heap.size 9 1 (.slice none 0 0) 0 (txV us) := own_belowS hownz hq6
              obtain ⟨ta, tg, tc, hv6, htc, hta, htn, _, htcell⟩ := slice_form ho6
              have htg : 0 < 0 → wr.heap.size ≤ tg ∧ tg < w6.heap.size := fun h => own_lt ho6 tg (by rw [hv6, hta h]; rfl)
              have hownk := own_take hown6 hk
              have HOGZ : Hid (∀ g, (Value.slice none 0 0).ownBlock = some g → g < wr.heap.size) := fun g hg => (own_lt (own_take hownz hk) g hg).2
              subst hv6
              have HB6 : Hid (Below w.heap.size w w6) := RsW.old HR6.out
              have hs67 : Below w6.heap.size w6 (w6.drew.alloc (.cells #[.string s] 9)) := ((Below.refl _ _).drew).alloc (Nat.le_refl _) _
              have hown7 : (w6.drew.alloc (.cells #[.string s] 9)).ownsRow w.heap.size 9 1 (.slice none 0 0) 0 ((txV us).take 0) := own_belowS hownk hs67
              have hrest7 : (w6.drew.alloc (.cells #[.string s] 9)).ownsRow w.heap.size 9 1 u4 (restOf (L.take i)).length ((restOf (L.take i)).map Value.string) := own_belowS (RsW.rest HR6.out) hs67
              have HRest : Hid (∀ g, u4.ownBlock = some g → g < w6.heap.size) := fun g hg => (own_lt (RsW.rest HR6.out) g hg).2
              have hsz7 : (w6.drew.alloc (.cells #[.string s] 9)).heap.size = w6.heap.size + 1 := by simp
              have hkc : (0 : Int) ≤ (0 : Int) := by omega
              have HLS6 : Hid (∀ wx, Below w.heap.size w wx → wx.cell? ⟨b, off + i, none⟩ = some (.string s)) := fun wx hx => by rw [← HSI.out]; exact HLC.out wx hx i hiL
              have hlow6 : w.heap.size ≤ w6.heap.size := HB6.out.size
              clear hown1 hcl hs1 hXl hg6 hownz
              refine wp_region_permA [(false, 0), (false, 1), (false, 2), (false, 3), (false, 4), (false, 5), (false, 6), (false, 9), (true, 7), (true, 8), (true, 10), (true, 11)] (fun wx => Below w.heap.size w wx) (by kernel_rfl) (by kernel_rfl) (HB6.out.drew) ?_
              refine a_value (some 58) ?_ rfl rfl (by rfl) (fun w hw => ?_) ?_
              rotate_left
              · go_simp
                with_reducible rfl
              simp only [Act.put, List.setIfInBounds_toArray, List.set_cons_zero, List.set_cons_succ]
              refine a_value (some 59) ?_ rfl rfl (by rfl) (fun w hw => ?_) ?_
              rotate_left
              · go_simp
                with_reducible rfl
              simp only [Act.put, List.setIfInBounds_toArray, List.set_cons_zero, List.set_cons_succ]
              refine a_value (some 60) (.slice none 0 0) rfl rfl (by rfl) (fun w hw => ?_) ?_
              · go_simp
              simp only [Act.put, List.setIfInBounds_toArray, List.set_cons_zero, List.set_cons_succ]
              refine a_value (some 61) ?_ rfl rfl (by rfl) (fun w hw => ?_) ?_
              rotate_left
              · go_simp
                with_reducible rfl
              simp only [Act.put, List.setIfInBounds_toArray, List.set_cons_zero, List.set_cons_succ]
              refine a_value (some 62) ?_ rfl rfl (by rfl) (fun w hw => ?_) ?_
              rotate_left
              · go_simp
                with_reducible rfl
              simp only [Act.put, List.setIfInBounds_toArray, List.set_cons_zero, List.set_cons_succ]
              refine a_value (some 63) ?_ rfl rfl (by rfl) (fun w hw => ?_) ?_
              rotate_left
              · go_simp
                with_reducible rfl
              simp only [Act.put, List.setIfInBounds_toArray, List.set_cons_zero, List.set_cons_succ]
              refine a_value (some 64) ?_ rfl rfl (by rfl) (fun w hw => ?_) ?_
              rotate_left
              · have hc := HLS6.out w hw
                go_simp
                with_reducible rfl
              simp only [Act.put, List.setIfInBounds_toArray, List.set_cons_zero, List.set_cons_succ]
              refine a_value (some 67) ?_ rfl rfl (by rfl) (fun w hw => ?_) ?_
              rotate_left
              · go_simp
                with_reducible rfl
              simp only [Act.put, List.setIfInBounds_toArray, List.set_cons_zero, List.set_cons_succ]
              obtain ⟨w7, hw7⟩ : ∃ x, x = w6.drew.alloc (.cells #[.string s] 9) := ⟨_, rfl⟩
              have hS7 : Below w.heap.size w w7 := by rw [hw7]; exact (HB6.out.drew).alloc hlow6 _
              refine a_alone (some 65) (.slice (some ⟨w6.heap.size, 0, none⟩) 1 1) w7 rfl rfl (by rfl) (by rw [hw7]; go_simp) hS7 ?_
              simp only [Act.put, List.setIfInBounds_toArray, List.set_cons_zero, List.set_cons_succ]
              have hnew : ∀ j u, [Value.string s][j]? = some u → w7.cell? ⟨w6.heap.size, 0 + j, none⟩ = some u := fun j u hj => by
                rw [hw7, Nat.zero_add]
                have hr : Row (w6.drew.alloc (.cells #[.string s] 9)) w6.heap.size #[.string s] 9 := Row.new w6.drew _ _
                rw [hr.cell j]
                show ([Value.string s].toArray)[j]? = _
                rw [List.getElem?_toArray]
                exact hj
              rw [← hw7] at hown7 hrest7 hsz7
              refine a_wp rfl (by rfl) ?_
              refine wp_append_any (some 66) rfl (.tmp 60) (.tmp 65) 38 9 (.string ⟨#[]⟩) 1 16 Tryz.underlying38 info9 rfl (by decide) rfl w.heap.size (.slice none 0 0) 0 ((txV us).take 0) rfl hown7 (some ⟨w6.heap.size, 0, none⟩) w6.heap.size 0 1 1 [.string s] rfl rfl (fun _ => rfl) hnew (fun u hu => by rw [List.mem_singleton.1 hu]; rfl) (fun h => nomatch h) (by unfold maxLen; omega) (by omega) (by omega) ?_
              intro v8 w8 ho8 hg8 hd8
              have hS8 : Below w.heap.size w w8 := hS7.trans (below_own hg8 hS7.size (fun g hg => (own_lt hown7 g hg).1))
              refine ⟨hS8, ?_⟩
              have htcl : ∀ j u, (([] : List ByteArray).map Value.string)[j]? = some u → w8.cell? ⟨tg, 0 + j, none⟩ = some u := fun j u hj => by simp at hj
              have hrest8 : w8.ownsRow w.heap.size 9 1 u4 (restOf (L.take i)).length ((restOf (L.take i)).map Value.string) := own_keepG hrest7 hg8 (fun g hg e => by cases e)
              have hd8' : ∀ g, u4.ownBlock = some g → v8.ownBlock ≠ some g := fun g hg e => by
                have h1 := HRest.out g hg
                rcases hd8 with h | h
                · rw [h] at e
                  exact by cases e
                · rw [h] at e
                  have := Option.some.inj e
                  omega
              have hlen8 : (([] : List ByteArray).map Value.string).length = 0 * 1 := rfl
              have htn' : ta = none → 0 = 0 ∧ tc = 0 := fun h => ⟨by have := htn h; omega, htn h⟩
              simp only [Act.put, List.setIfInBounds_toArray, List.set_cons_zero, List.set_cons_succ]
              refine a_wp rfl (by rfl) ?_
              refine wp_append_any (some 68) rfl (.tmp 66) (.tmp 67) 38 9 (.string ⟨#[]⟩) 1 16 Tryz.underlying38 info9 rfl (by decide) rfl w.heap.size v8 (0 + 1) ((txV us).take 0 ++ [.string s]) rfl ho8 ta tg 0 (0) tc (([] : List ByteArray).map Value.string) hlen8 rfl hta htcl (fun u hu => by obtain ⟨z, _, rfl⟩ := List.mem_map.1 hu; rfl) htn' (by unfold maxLen; omega) (by omega) hS8.size ?_
              intro v10 w10 ho10 hg10 hd10
              have hS10 : Below w.heap.size w w10 := hS8.trans (below_own hg10 hS8.size (fun g hg => (own_lt ho8 g hg).1))
              refine ⟨hS10, ?_⟩
              have HFin : Hid (RsW w w10 L (i + 1) (insV us 0 v) v10 u4) := by
                refine ⟨by rw [HV0.out]; exact insV_perm 0 v (RsW.perm HR6.out), insV_falls (RsW.falls HR6.out) HGE.out HK2.out, ?_, ?_, fun g hg e => ?_, hS10⟩
                · rw [insV_len us 0 v (by have := HM.out; omega)]
                  have h1 := ho10
                  rw [show 0 + 1 + (0) = us.length + 1 by have := HM.out; omega] at h1
                  rw [show txV (insV us 0 v) = (txV us).take 0 ++ [.string s] ++ ([] : List ByteArray).map Value.string by
                    unfold txV insV
                    rw [HDN.out, List.map_append, List.map_cons, HTX.out, List.map_take, List.append_assoc]
                    rfl]
                  exact h1
                · rw [HR0.out]
                  exact own_keepG hrest8 hg10 hd8'
                · have h1 := HRest.out g e
                  rcases hd10 with h | h
                  · rw [h] at hg
                    exact hd8' g e hg
                  · rw [h] at hg
                    have := Option.some.inj hg
                    have := hg8.size
                    omega
              simp only [Act.put, List.setIfInBounds_toArray, List.set_cons_zero, List.set_cons_succ]
              refine a_alone (some 3) v10 w10 rfl rfl (by rfl) (by go_simp) hS10 ?_
              simp only [Act.put, List.setIfInBounds_toArray, List.set_cons_zero, List.set_cons_succ]
              refine a_done ?_
              try simp only [Exit.then]
              clear ho10 hg10 hd10 ho8 hg8 hd8 htcl hrest8 hd8' hlen8 htn' hnew hown7 hrest7 htcell hta htn htg hownk hown6 hq6 ho6 hs67 hS7 hS8 hS10
              go_wp2
              go_roundw
              case rel => exact ⟨i + 1, insV us 0 v, by omega, by go_num, HFin.out⟩
              case measure => simp [intOf]; omega
            | some g0 =>
              obtain rfl := HOZ.out g0 rfl
              by_cases hok : oc = k
              · obtain rfl : m = k := by omega
                subst hok
                have HRz : Hid (RsW w wr L i us (.slice (some ⟨og, 0, none⟩) oc oc) u4) := RsW.next HR2.out HZ.out
                have hownz : wr.ownsRow w.heap.size 9 1 (.slice (some ⟨og, 0, none⟩) oc oc) oc (txV us) := by
                  have h := RsW.out HRz.out
                  rw [← HM.out] at h
                  exact h
                have hown1 := copy_own wr
                have hs1 : wr.heap.size ≤ (wr.alloc (.cells #[] 9)).heap.size := by simp
                have hXl : ([] : List ByteArray).length = 0 := rfl
                have hcl : ∀ t u, (([] : List ByteArray).map Value.string)[t]? = some u → (wr.alloc (.cells #[] 9)).cell? ⟨og, oc + t, none⟩ = some u := fun t u ht => by simp at ht
                have HDN : Hid (us.drop oc = []) := List.drop_of_length_le (by have := HM.out; omega)
                have hat : 0 < 0 → ((some ⟨og, 0, none⟩) : Option Addr) = some ⟨og, oc, none⟩ := fun h => absurd h (by omega)
                have hnn : ((some ⟨og, 0, none⟩) : Option Addr) = none → 0 = 0 ∧ 0 = 0 := fun h => by cases h
                have HLZ : Hid (Below w.heap.size w wr) := RsW.old HRz.out
                have hkm2 : oc = oc := by omega
                go_upto_region 13 with fail
                go_wp2_with (at_builtin; refine wpList_ap_allO rfl (some 57) rfl _ _ rfl wr.heap.size (.slice (some ⟨wr.heap.size, 0, none⟩) 0 0) 0 [] rfl hown1 (some ⟨og, 0, none⟩) og oc (0) (0) ([] : List ByteArray) hXl rfl hat hnn hcl hs1 (by omega) ?_; intro v6 w6 ho6 hg6)
                have hq6 : Below wr.heap.size wr w6 := ((Below.refl wr.heap.size wr).alloc (Nat.le_refl _) (.cells #[] 9)).trans (below_own hg6 hs1 (fun j hj => by simp only [Value.ownBlock, Option.some.injEq] at hj; omega))
                rw [Nat.zero_add, List.nil_append] at ho6
                have HR6 : Hid (RsW w w6 L i us (.slice (some ⟨og, 0, none⟩) oc oc) u4) := RsW.next HRz.out hq6
                have hown6 : w6.ownsRow w.heap.size 9 1 (.slice (some ⟨og, 0, none⟩) oc oc) oc (txV us) := own_belowS hownz hq6
                obtain ⟨ta, tg, tc, hv6, htc, hta, htn, _, htcell⟩ := slice_form ho6
                have htg : 0 < 0 → wr.heap.size ≤ tg ∧ tg < w6.heap.size := fun h => own_lt ho6 tg (by rw [hv6, hta h]; rfl)
                have hownk := own_take hown6 hk
                have HOGZ : Hid (∀ g, (Value.slice (some ⟨og, 0, none⟩) oc oc).ownBlock = some g → g < wr.heap.size) := fun g hg => (own_lt (own_take hownz hk) g hg).2
                subst hv6
                have HB6 : Hid (Below w.heap.size w w6) := RsW.old HR6.out
                have hs67 : Below w6.heap.size w6 (w6.drew.alloc (.cells #[.string s] 9)) := ((Below.refl _ _).drew).alloc (Nat.le_refl _) _
                have hown7 : (w6.drew.alloc (.cells #[.string s] 9)).ownsRow w.heap.size 9 1 (.slice (some ⟨og, 0, none⟩) oc oc) oc ((txV us).take oc) := own_belowS hownk hs67
                have hrest7 : (w6.drew.alloc (.cells #[.string s] 9)).ownsRow w.heap.size 9 1 u4 (restOf (L.take i)).length ((restOf (L.take i)).map Value.string) := own_belowS (RsW.rest HR6.out) hs67
                have HRest : Hid (∀ g, u4.ownBlock = some g → g < w6.heap.size) := fun g hg => (own_lt (RsW.rest HR6.out) g hg).2
                have hsz7 : (w6.drew.alloc (.cells #[.string s] 9)).heap.size = w6.heap.size + 1 := by simp
                have hkc : (oc : Int) ≤ (oc : Int) := by omega
                have HLS6 : Hid (∀ wx, Below w.heap.size w wx → wx.cell? ⟨b, off + i, none⟩ = some (.string s)) := fun wx hx => by rw [← HSI.out]; exact HLC.out wx hx i hiL
                have hlow6 : w.heap.size ≤ w6.heap.size := HB6.out.size
                clear hown1 hcl hs1 hXl hg6 hownz
                refine wp_region_permA [(false, 0), (false, 1), (false, 2), (false, 3), (false, 4), (false, 5), (false, 6), (false, 9), (true, 7), (true, 8), (true, 10), (true, 11)] (fun wx => Below w.heap.size w wx) (by kernel_rfl) (by kernel_rfl) (HB6.out.drew) ?_
                refine a_value (some 58) ?_ rfl rfl (by rfl) (fun w hw => ?_) ?_
                rotate_left
                · go_simp
                  with_reducible rfl
                simp only [Act.put, List.setIfInBounds_toArray, List.set_cons_zero, List.set_cons_succ]
                refine a_value (some 59) ?_ rfl rfl (by rfl) (fun w hw => ?_) ?_
                rotate_left
                · go_simp
                  with_reducible rfl
                simp only [Act.put, List.setIfInBounds_toArray, List.set_cons_zero, List.set_cons_succ]
                refine a_value (some 60) (.slice (some ⟨og, 0, none⟩) oc oc) rfl rfl (by rfl) (fun w hw => ?_) ?_
                · go_simp
                simp only [Act.put, List.setIfInBounds_toArray, List.set_cons_zero, List.set_cons_succ]
                refine a_value (some 61) ?_ rfl rfl (by rfl) (fun w hw => ?_) ?_
                rotate_left
                · go_simp
                  with_reducible rfl
                simp only [Act.put, List.setIfInBounds_toArray, List.set_cons_zero, List.set_cons_succ]
                refine a_value (some 62) ?_ rfl rfl (by rfl) (fun w hw => ?_) ?_
                rotate_left
                · go_simp
                  with_reducible rfl
                simp only [Act.put, List.setIfInBounds_toArray, List.set_cons_zero, List.set_cons_succ]
                refine a_value (some 63) ?_ rfl rfl (by rfl) (fun w hw => ?_) ?_
                rotate_left
                · go_simp
                  with_reducible rfl
                simp only [Act.put, List.setIfInBounds_toArray, List.set_cons_zero, List.set_cons_succ]
                refine a_value (some 64) ?_ rfl rfl (by rfl) (fun w hw => ?_) ?_
                rotate_left
                · have hc := HLS6.out w hw
                  go_simp
                  with_reducible rfl
                simp only [Act.put, List.setIfInBounds_toArray, List.set_cons_zero, List.set_cons_succ]
                refine a_value (some 67) ?_ rfl rfl (by rfl) (fun w hw => ?_) ?_
                rotate_left
                · go_simp
                  with_reducible rfl
                simp only [Act.put, List.setIfInBounds_toArray, List.set_cons_zero, List.set_cons_succ]
                obtain ⟨w7, hw7⟩ : ∃ x, x = w6.drew.alloc (.cells #[.string s] 9) := ⟨_, rfl⟩
                have hS7 : Below w.heap.size w w7 := by rw [hw7]; exact (HB6.out.drew).alloc hlow6 _
                refine a_alone (some 65) (.slice (some ⟨w6.heap.size, 0, none⟩) 1 1) w7 rfl rfl (by rfl) (by rw [hw7]; go_simp) hS7 ?_
                simp only [Act.put, List.setIfInBounds_toArray, List.set_cons_zero, List.set_cons_succ]
                have hnew : ∀ j u, [Value.string s][j]? = some u → w7.cell? ⟨w6.heap.size, 0 + j, none⟩ = some u := fun j u hj => by
                  rw [hw7, Nat.zero_add]
                  have hr : Row (w6.drew.alloc (.cells #[.string s] 9)) w6.heap.size #[.string s] 9 := Row.new w6.drew _ _
                  rw [hr.cell j]
                  show ([Value.string s].toArray)[j]? = _
                  rw [List.getElem?_toArray]
                  exact hj
                rw [← hw7] at hown7 hrest7 hsz7
                refine a_wp rfl (by rfl) ?_
                refine wp_append_any (some 66) rfl (.tmp 60) (.tmp 65) 38 9 (.string ⟨#[]⟩) 1 16 Tryz.underlying38 info9 rfl (by decide) rfl w.heap.size (.slice (some ⟨og, 0, none⟩) oc oc) oc ((txV us).take oc) rfl hown7 (some ⟨w6.heap.size, 0, none⟩) w6.heap.size 0 1 1 [.string s] rfl rfl (fun _ => rfl) hnew (fun u hu => by rw [List.mem_singleton.1 hu]; rfl) (fun h => nomatch h) (by unfold maxLen; omega) (by omega) (by omega) ?_
                intro v8 w8 ho8 hg8 hd8
                have hS8 : Below w.heap.size w w8 := hS7.trans (below_own hg8 hS7.size (fun g hg => (own_lt hown7 g hg).1))
                refine ⟨hS8, ?_⟩
                have htcl : ∀ j u, (([] : List ByteArray).map Value.string)[j]? = some u → w8.cell? ⟨tg, 0 + j, none⟩ = some u := fun j u hj => by simp at hj
                have hrest8 : w8.ownsRow w.heap.size 9 1 u4 (restOf (L.take i)).length ((restOf (L.take i)).map Value.string) := own_keepG hrest7 hg8 (fun g hg e => RsW.sep HR6.out g e hg)
                have hd8' : ∀ g, u4.ownBlock = some g → v8.ownBlock ≠ some g := fun g hg e => by
                  have h1 := HRest.out g hg
                  rcases hd8 with h | h
                  · rw [h] at e
                    exact RsW.sep HR6.out g e hg
                  · rw [h] at e
                    have := Option.some.inj e
                    omega
                have hlen8 : (([] : List ByteArray).map Value.string).length = 0 * 1 := rfl
                have htn' : ta = none → 0 = 0 ∧ tc = 0 := fun h => ⟨by have := htn h; omega, htn h⟩
                simp only [Act.put, List.setIfInBounds_toArray, List.set_cons_zero, List.set_cons_succ]
                refine a_wp rfl (by rfl) ?_
                refine wp_append_any (some 68) rfl (.tmp 66) (.tmp 67) 38 9 (.string ⟨#[]⟩) 1 16 Tryz.underlying38 info9 rfl (by decide) rfl w.heap.size v8 (oc + 1) ((txV us).take oc ++ [.string s]) rfl ho8 ta tg 0 (0) tc (([] : List ByteArray).map Value.string) hlen8 rfl hta htcl (fun u hu => by obtain ⟨z, _, rfl⟩ := List.mem_map.1 hu; rfl) htn' (by unfold maxLen; omega) (by omega) hS8.size ?_
                intro v10 w10 ho10 hg10 hd10
                have hS10 : Below w.heap.size w w10 := hS8.trans (below_own hg10 hS8.size (fun g hg => (own_lt ho8 g hg).1))
                refine ⟨hS10, ?_⟩
                have HFin : Hid (RsW w w10 L (i + 1) (insV us oc v) v10 u4) := by
                  refine ⟨by rw [HV0.out]; exact insV_perm oc v (RsW.perm HR6.out), insV_falls (RsW.falls HR6.out) HGE.out HK2.out, ?_, ?_, fun g hg e => ?_, hS10⟩
                  · rw [insV_len us oc v (by have := HM.out; omega)]
                    have h1 := ho10
                    rw [show oc + 1 + (0) = us.length + 1 by have := HM.out; omega] at h1
                    rw [show txV (insV us oc v) = (txV us).take oc ++ [.string s] ++ ([] : List ByteArray).map Value.string by
                      unfold txV insV
                      rw [HDN.out, List.map_append, List.map_cons, HTX.out, List.map_take, List.append_assoc]
                      rfl]
                    exact h1
                  · rw [HR0.out]
                    exact own_keepG hrest8 hg10 hd8'
                  · have h1 := HRest.out g e
                    rcases hd10 with h | h
                    · rw [h] at hg
                      exact hd8' g e hg
                    · rw [h] at hg
                      have := Option.some.inj hg
                      have := hg8.size
                      omega
                simp only [Act.put, List.setIfInBounds_toArray, List.set_cons_zero, List.set_cons_succ]
                refine a_alone (some 3) v10 w10 rfl rfl (by rfl) (by go_simp) hS10 ?_
                simp only [Act.put, List.setIfInBounds_toArray, List.set_cons_zero, List.set_cons_succ]
                refine a_done ?_
                try simp only [Exit.then]
                clear ho10 hg10 hd10 ho8 hg8 hd8 htcl hrest8 hd8' hlen8 htn' hnew hown7 hrest7 htcell hta htn htg hownk hown6 hq6 ho6 hs67 hS7 hS8 hS10
                go_wp2
                go_roundw
                case rel => exact ⟨i + 1, insV us oc v, by omega, by go_num, HFin.out⟩
                case measure => simp [intOf]; omega
              · have HRz : Hid (RsW w wr L i us (.slice (some ⟨og, 0, none⟩) m oc) u4) := RsW.next HR2.out HZ.out
                have hownz : wr.ownsRow w.heap.size 9 1 (.slice (some ⟨og, 0, none⟩) m oc) m (txV us) := by
                  have h := RsW.out HRz.out
                  rw [← HM.out] at h
                  exact h
                have hown1 := copy_own wr
                have hs1 : wr.heap.size ≤ (wr.alloc (.cells #[] 9)).heap.size := by simp
                have hXl : ((us.drop k).map fun v => tx (textV v)).length = m - k := by rw [List.length_map, List.length_drop, ← HM.out]
                have hcl : ∀ t u, (((us.drop k).map fun v => tx (textV v)).map Value.string)[t]? = some u → (wr.alloc (.cells #[] 9)).cell? ⟨og, k + t, none⟩ = some u := fun t u ht => by
                  have htl : t < m - k := by
                    have := (List.getElem?_eq_some_iff.1 ht).1
                    rw [List.length_map, hXl] at this
                    exact this
                  have hkt : k + t < us.length := by have := HM.out; omega
                  rw [HOC.out _ (HZ.out.alloc HZ.out.size _) (k + t) hkt]
                  rw [List.getElem?_map, List.getElem?_map, List.getElem?_drop, List.getElem?_eq_getElem hkt] at ht
                  exact ht
                have hat : 0 < m - k → ((some ⟨og, k, none⟩) : Option Addr) = some ⟨og, k, none⟩ := fun _ => rfl
                have hnn : ((some ⟨og, k, none⟩) : Option Addr) = none → m - k = 0 ∧ oc - k = 0 := fun h => by cases h
                have HLZ : Hid (Below w.heap.size w wr) := RsW.old HRz.out
                have hkoc : ¬ oc = k := hok
                have hkoc2 : (k : Int) ≤ (oc : Int) := by omega
                have hkoc3 : (k : Int) ≤ (m : Int) := by omega
                go_upto_region 13 with fail
                go_wp2_with (at_builtin; refine wpList_ap_allO rfl (some 57) rfl _ _ rfl wr.heap.size (.slice (some ⟨wr.heap.size, 0, none⟩) 0 0) 0 [] rfl hown1 (some ⟨og, k, none⟩) og k (m - k) (oc - k) ((us.drop k).map fun v => tx (textV v)) hXl rfl hat hnn hcl hs1 (by omega) ?_; intro v6 w6 ho6 hg6)
                have hq6 : Below wr.heap.size wr w6 := ((Below.refl wr.heap.size wr).alloc (Nat.le_refl _) (.cells #[] 9)).trans (below_own hg6 hs1 (fun j hj => by simp only [Value.ownBlock, Option.some.injEq] at hj; omega))
                rw [Nat.zero_add, List.nil_append] at ho6
                have HR6 : Hid (RsW w w6 L i us (.slice (some ⟨og, 0, none⟩) m oc) u4) := RsW.next HRz.out hq6
                have hown6 : w6.ownsRow w.heap.size 9 1 (.slice (some ⟨og, 0, none⟩) m oc) m (txV us) := own_belowS hownz hq6
                obtain ⟨ta, tg, tc, hv6, htc, hta, htn, _, htcell⟩ := slice_form ho6
                have htg : 0 < m - k → wr.heap.size ≤ tg ∧ tg < w6.heap.size := fun h => own_lt ho6 tg (by rw [hv6, hta h]; rfl)
                have hownk := own_take hown6 hk
                have HOGZ : Hid (∀ g, (Value.slice (some ⟨og, 0, none⟩) k oc).ownBlock = some g → g < wr.heap.size) := fun g hg => (own_lt (own_take hownz hk) g hg).2
                subst hv6
                have HB6 : Hid (Below w.heap.size w w6) := RsW.old HR6.out
                have hs67 : Below w6.heap.size w6 (w6.drew.alloc (.cells #[.string s] 9)) := ((Below.refl _ _).drew).alloc (Nat.le_refl _) _
                have hown7 : (w6.drew.alloc (.cells #[.string s] 9)).ownsRow w.heap.size 9 1 (.slice (some ⟨og, 0, none⟩) k oc) k ((txV us).take k) := own_belowS hownk hs67
                have hrest7 : (w6.drew.alloc (.cells #[.string s] 9)).ownsRow w.heap.size 9 1 u4 (restOf (L.take i)).length ((restOf (L.take i)).map Value.string) := own_belowS (RsW.rest HR6.out) hs67
                have HRest : Hid (∀ g, u4.ownBlock = some g → g < w6.heap.size) := fun g hg => (own_lt (RsW.rest HR6.out) g hg).2
                have hsz7 : (w6.drew.alloc (.cells #[.string s] 9)).heap.size = w6.heap.size + 1 := by simp
                have HTC : Hid (∀ j, j < m - k → (w6.drew.alloc (.cells #[.string s] 9)).cell? ⟨tg, j, none⟩ = (((us.drop k).map fun v => tx (textV v)).map Value.string)[j]?) := fun j hj => (hs67.cell (p := ⟨tg, j, none⟩) (htg (by omega)).2).trans (htcell j hj)
                have hkc : (k : Int) ≤ (oc : Int) := by omega
                have HLS6 : Hid (∀ wx, Below w.heap.size w wx → wx.cell? ⟨b, off + i, none⟩ = some (.string s)) := fun wx hx => by rw [← HSI.out]; exact HLC.out wx hx i hiL
                have hlow6 : w.heap.size ≤ w6.heap.size := HB6.out.size
                clear hown1 hcl hs1 hXl hg6 hownz
                refine wp_region_permA [(false, 0), (false, 1), (false, 2), (false, 3), (false, 4), (false, 5), (false, 6), (false, 9), (true, 7), (true, 8), (true, 10), (true, 11)] (fun wx => Below w.heap.size w wx) (by kernel_rfl) (by kernel_rfl) (HB6.out.drew) ?_
                refine a_value (some 58) ?_ rfl rfl (by rfl) (fun w hw => ?_) ?_
                rotate_left
                · go_simp
                  with_reducible rfl
                simp only [Act.put, List.setIfInBounds_toArray, List.set_cons_zero, List.set_cons_succ]
                refine a_value (some 59) ?_ rfl rfl (by rfl) (fun w hw => ?_) ?_
                rotate_left
                · go_simp
                  with_reducible rfl
                simp only [Act.put, List.setIfInBounds_toArray, List.set_cons_zero, List.set_cons_succ]
                refine a_value (some 60) (.slice (some ⟨og, 0, none⟩) k oc) rfl rfl (by rfl) (fun w hw => ?_) ?_
                · go_simp
                simp only [Act.put, List.setIfInBounds_toArray, List.set_cons_zero, List.set_cons_succ]
                refine a_value (some 61) ?_ rfl rfl (by rfl) (fun w hw => ?_) ?_
                rotate_left
                · go_simp
                  with_reducible rfl
                simp only [Act.put, List.setIfInBounds_toArray, List.set_cons_zero, List.set_cons_succ]
                refine a_value (some 62) ?_ rfl rfl (by rfl) (fun w hw => ?_) ?_
                rotate_left
                · go_simp
                  with_reducible rfl
                simp only [Act.put, List.setIfInBounds_toArray, List.set_cons_zero, List.set_cons_succ]
                refine a_value (some 63) ?_ rfl rfl (by rfl) (fun w hw => ?_) ?_
                rotate_left
                · go_simp
                  with_reducible rfl
                simp only [Act.put, List.setIfInBounds_toArray, List.set_cons_zero, List.set_cons_succ]
                refine a_value (some 64) ?_ rfl rfl (by rfl) (fun w hw => ?_) ?_
                rotate_left
                · have hc := HLS6.out w hw
                  go_simp
                  with_reducible rfl
                simp only [Act.put, List.setIfInBounds_toArray, List.set_cons_zero, List.set_cons_succ]
                refine a_value (some 67) ?_ rfl rfl (by rfl) (fun w hw => ?_) ?_
                rotate_left
                · go_simp
                  with_reducible rfl
                simp only [Act.put, List.setIfInBounds_toArray, List.set_cons_zero, List.set_cons_succ]
                obtain ⟨w7, hw7⟩ : ∃ x, x = w6.drew.alloc (.cells #[.string s] 9) := ⟨_, rfl⟩
                have hS7 : Below w.heap.size w w7 := by rw [hw7]; exact (HB6.out.drew).alloc hlow6 _
                refine a_alone (some 65) (.slice (some ⟨w6.heap.size, 0, none⟩) 1 1) w7 rfl rfl (by rfl) (by rw [hw7]; go_simp) hS7 ?_
                simp only [Act.put, List.setIfInBounds_toArray, List.set_cons_zero, List.set_cons_succ]
                have hnew : ∀ j u, [Value.string s][j]? = some u → w7.cell? ⟨w6.heap.size, 0 + j, none⟩ = some u := fun j u hj => by
                  rw [hw7, Nat.zero_add]
                  have hr : Row (w6.drew.alloc (.cells #[.string s] 9)) w6.heap.size #[.string s] 9 := Row.new w6.drew _ _
                  rw [hr.cell j]
                  show ([Value.string s].toArray)[j]? = _
                  rw [List.getElem?_toArray]
                  exact hj
                rw [← hw7] at hown7 hrest7 hsz7 HTC
                refine a_wp rfl (by rfl) ?_
                refine wp_append_any (some 66) rfl (.tmp 60) (.tmp 65) 38 9 (.string ⟨#[]⟩) 1 16 Tryz.underlying38 info9 rfl (by decide) rfl w.heap.size (.slice (some ⟨og, 0, none⟩) k oc) k ((txV us).take k) rfl hown7 (some ⟨w6.heap.size, 0, none⟩) w6.heap.size 0 1 1 [.string s] rfl rfl (fun _ => rfl) hnew (fun u hu => by rw [List.mem_singleton.1 hu]; rfl) (fun h => nomatch h) (by unfold maxLen; omega) (by omega) (by omega) ?_
                intro v8 w8 ho8 hg8 hd8
                have hS8 : Below w.heap.size w w8 := hS7.trans (below_own hg8 hS7.size (fun g hg => (own_lt hown7 g hg).1))
                refine ⟨hS8, ?_⟩
                have htcl : ∀ j u, (((us.drop k).map fun v => tx (textV v)).map Value.string)[j]? = some u → w8.cell? ⟨tg, 0 + j, none⟩ = some u := fun j u hj => by
                  have hjl : j < m - k := by
                    have := (List.getElem?_eq_some_iff.1 hj).1
                    rw [List.length_map, List.length_map, List.length_drop, ← HM.out] at this
                    exact this
                  rw [Nat.zero_add]
                  refine hg8.cell (a := ⟨tg, j, none⟩) ((HTC.out j hjl).trans hj) (fun e => ?_)
                  have h1 := HOGZ.out tg e.symm
                  have := (htg (by omega)).1
                  omega
                have hrest8 : w8.ownsRow w.heap.size 9 1 u4 (restOf (L.take i)).length ((restOf (L.take i)).map Value.string) := own_keepG hrest7 hg8 (fun g hg e => RsW.sep HR6.out g e hg)
                have hd8' : ∀ g, u4.ownBlock = some g → v8.ownBlock ≠ some g := fun g hg e => by
                  have h1 := HRest.out g hg
                  rcases hd8 with h | h
                  · rw [h] at e
                    exact RsW.sep HR6.out g e hg
                  · rw [h] at e
                    have := Option.some.inj e
                    omega
                have hlen8 : (((us.drop k).map fun v => tx (textV v)).map Value.string).length = (m - k) * 1 := by rw [List.length_map, List.length_map, List.length_drop, ← HM.out, Nat.mul_one]
                have htn' : ta = none → m - k = 0 ∧ tc = 0 := fun h => ⟨by have := htn h; omega, htn h⟩
                simp only [Act.put, List.setIfInBounds_toArray, List.set_cons_zero, List.set_cons_succ]
                refine a_wp rfl (by rfl) ?_
                refine wp_append_any (some 68) rfl (.tmp 66) (.tmp 67) 38 9 (.string ⟨#[]⟩) 1 16 Tryz.underlying38 info9 rfl (by decide) rfl w.heap.size v8 (k + 1) ((txV us).take k ++ [.string s]) rfl ho8 ta tg 0 (m - k) tc (((us.drop k).map fun v => tx (textV v)).map Value.string) hlen8 rfl hta htcl (fun u hu => by obtain ⟨z, _, rfl⟩ := List.mem_map.1 hu; rfl) htn' (by unfold maxLen; omega) (by omega) hS8.size ?_
                intro v10 w10 ho10 hg10 hd10
                have hS10 : Below w.heap.size w w10 := hS8.trans (below_own hg10 hS8.size (fun g hg => (own_lt ho8 g hg).1))
                refine ⟨hS10, ?_⟩
                have HFin : Hid (RsW w w10 L (i + 1) (insV us k v) v10 u4) := by
                  refine ⟨by rw [HV0.out]; exact insV_perm k v (RsW.perm HR6.out), insV_falls (RsW.falls HR6.out) HGE.out HK2.out, ?_, ?_, fun g hg e => ?_, hS10⟩
                  · rw [insV_len us k v (by have := HM.out; omega)]
                    have h1 := ho10
                    rw [show k + 1 + (m - k) = us.length + 1 by have := HM.out; omega] at h1
                    rw [show txV (insV us k v) = (txV us).take k ++ [.string s] ++ ((us.drop k).map fun v => tx (textV v)).map Value.string by
                      unfold txV insV
                      rw [List.map_append, List.map_cons, HTX.out, List.map_take, List.map_map, List.append_assoc]
                      rfl]
                    exact h1
                  · rw [HR0.out]
                    exact own_keepG hrest8 hg10 hd8'
                  · have h1 := HRest.out g e
                    rcases hd10 with h | h
                    · rw [h] at hg
                      exact hd8' g e hg
                    · rw [h] at hg
                      have := Option.some.inj hg
                      have := hg8.size
                      omega
                simp only [Act.put, List.setIfInBounds_toArray, List.set_cons_zero, List.set_cons_succ]
                refine a_alone (some 3) v10 w10 rfl rfl (by rfl) (by go_simp) hS10 ?_
                simp only [Act.put, List.setIfInBounds_toArray, List.set_cons_zero, List.set_cons_succ]
                refine a_done ?_
                try simp only [Exit.then]
                clear ho10 hg10 hd10 ho8 hg8 hd8 htcl hrest8 hd8' hlen8 htn' hnew hown7 hrest7 htcell hta htn htg hownk hown6 hq6 ho6 hs67 hS7 hS8 hS10
                go_wp2
                go_roundw
                case rel => exact ⟨i + 1, insV us k v, by omega, by go_num, HFin.out⟩
                case measure => simp [intOf]; omega
    · have hin' : ¬ (i : Int) < (n : Int) := by omega
      have hall : L.take i = L := List.take_of_length_le (by have := HN.out; omega)
      have hout := HR.out.out
      have hrest := HR.out.rest
      obtain ⟨ra, rg, rc, hru4, hrc, hra, hrn, _, hrcell⟩ := slice_form hrest
      have hRl : (restOf (L.take i)).length + us.length ≤ 1000 := by
        have h1 := versOf_len (L.take i)
        have h2 := HR.out.perm.length_eq
        rw [List.length_take] at h1
        omega
      have HOLD := HR.out.old.size
      subst hru4
      have hcl : ∀ t u, ((restOf (L.take i)).map Value.string)[t]? = some u → wr.cell? ⟨rg, 0 + t, none⟩ = some u := fun t u ht => by
        have htl : t < (restOf (L.take i)).length := by simpa using (List.getElem?_eq_some_iff.1 ht).1
        rw [Nat.zero_add, hrcell t htl]
        exact ht
      have hrn' : ra = none → (restOf (L.take i)).length = 0 ∧ rc = 0 := fun h => by
        have := hrn h
        exact ⟨by omega, this⟩
      go_wp2_with (at_builtin; refine wpList_ap_allO rfl (some 71) rfl _ _ rfl w.heap.size u3 us.length (txV us) rfl hout ra rg 0 (restOf (L.take i)).length rc (restOf (L.take i)) rfl rfl hra hrn' hcl HOLD (by omega) ?_; intro v5 w5 ho5 hg5)
      go_ret
      refine ⟨us, v5, rfl, ?_, HR.out.falls, ?_, HR.out.old.trans (below_own hg5 HOLD (fun k hk => (own_lt hout k hk).1))⟩
      · have := HR.out.perm
        rw [hall] at this
        exact this
      · rw [hall] at ho5
        have h1 := versOf_len L
        have h2 := HR.out.perm.length_eq
        rw [hall] at h2
        rw [List.map_append, List.map_map, show L.length = us.length + (restOf L).length by omega]
        exact ho5
end Go.Proofs.YtkbhckjpmgkgjaaGreatDoor
namespace Go.Proofs.YtkbhckjpmgkgjaaGreatDoor
open Go.RowKit

/-- What Versions tells. -/
def VersPost (V : List ByteArray) (w : World) (e : Ending) (w' : World) : Prop := ∃ wr, Below w.heap.size w wr ∧ SortPost V wr e w'
set_option maxRecDepth 20000 in
set_option maxHeartbeats 4000000 in
theorem versionsC_ok {L : List Pak} {pv : Value} (nm : ByteArray) (w : World) (hL : PacksIn w pv L) (hl : L.length ≤ 1000) (hF : FitP L) (hT : Pw w) : Calls Tryz.prog 16 #[pv, .string nm] w (VersPost (verOf L nm) w) := by
  obtain ⟨a, g, off, c, rfl, h2, h3, h4, h5⟩ := hL.ex
  have HA1 : Hid (0 < L.length → a = some ⟨g, off, none⟩) := fun h => (h3 h).1
  have HA5 : Hid (∀ wx, Below w.heap.size w wx → ∀ i (h : i < L.length), ∃ na nl nc, wx.rangeAt g (off + i * 3) (encP L[i] (.slice na nl nc))) := fun wx hx i hi => by
    obtain ⟨nv, k1, k2⟩ := h5 i hi
    obtain ⟨na, _, _, nc, rfl, _⟩ := k2.ex
    exact ⟨na, _, nc, fun j u hj => (hx.cell (p := ⟨g, off + i * 3 + j, none⟩) (h3 (by omega)).2).trans (k1 j u hj)⟩
  obtain ⟨RP, hRP⟩ : ∃ RP : Ending → World → Prop, RP = VersPost (verOf L nm) w := ⟨_, rfl⟩
  have HRP : Hid (∀ wr e w', Below w.heap.size w wr → SortPost (verOf L nm) wr e w' → RP e w') := fun wr e w' h1 h2 => by rw [hRP]; exact ⟨wr, h1, h2⟩
  rw [← hRP]
  clear hRP
  have HT : Hid (Pw w) := hT
  have HFt : Hid (FitP L) := hF
  obtain ⟨n, hn⟩ : ∃ n, n = L.length := ⟨_, rfl⟩
  have HN : Hid (n = L.length) := hn
  have hnn : L.length = n := hn.symm
  rw [hnn]
  rw [hnn] at h2 hl
  have H0 : Hid (VfR w w L nm 0 (.slice none 0 0)) := ⟨World.ownsRow_nil _ _ _ _, Below.refl _ _⟩
  clear hL h3 h4 h5 hn hnn hT hF
  go_enter Tryz.func16, Tryz.ntmps16
  go_wp2
  go_loopw [5, 10] (fun tv iv wr => ∃ i : Nat, i ≤ n ∧ iv = .int .i64 i ∧ VfR w wr L nm i tv) (fun _ iv _ => n - (intOf iv).toNat)
  case atStart => exact ⟨0, Nat.zero_le _, rfl, H0.out⟩
  case round =>
    obtain ⟨i, hi, rfl, hR⟩ := hrel
    have HR : Hid (VfR w wr L nm i u5) := hR
    clear hR H0
    by_cases hlt : i < n
    · have hlt' : (i : Int) < (n : Int) := by omega
      have hiL : i < L.length := by have := HN.out; omega
      obtain rfl := HA1.out (by omega)
      obtain ⟨na, nl, nc, hrg⟩ := HA5.out wr (VfR.old HR.out) i hiL
      obtain ⟨p, hp⟩ : ∃ p, p = L[i] := ⟨_, rfl⟩
      rw [← hp] at hrg
      have hrg0 := hrg
      have HTk : Hid (verOf (L.take (i + 1)) nm = verOf (L.take i) nm ++ if p.nm = nm then [p.vr] else []) := by
        show _ = _
        rw [List.take_succ_eq_append_getElem hiL, verOf_snoc, hp]
      have hb3 : Below wr.heap.size wr (wr.alloc (.cells #[.string p.nm, .string p.vr, .slice na nl nc] 44)) := (Below.refl _ _).alloc (Nat.le_refl _) _
      have hr3 : Row (wr.alloc (.cells #[.string p.nm, .string p.vr, .slice na nl nc] 44)) wr.heap.size #[.string p.nm, .string p.vr, .slice na nl nc] 44 := Row.new _ _ _
      obtain ⟨w3, hw3⟩ : ∃ x, x = wr.alloc (.cells #[.string p.nm, .string p.vr, .slice na nl nc] 44) := ⟨_, rfl⟩
      rw [← hw3] at hb3 hr3
      have hw3' := hw3.symm
      obtain ⟨k5, hk5⟩ : ∃ k, k = wr.heap.size := ⟨_, rfl⟩
      have hk5' := hk5.symm
      rw [← hk5] at hr3
      have d0 : w3.cell? ⟨k5, 0, none⟩ = some (.string p.nm) := (hr3.cell 0).trans rfl
      have d1 : w3.cell? ⟨k5, 1, none⟩ = some (.string p.vr) := (hr3.cell 1).trans rfl
      have HB3 : Hid (Below wr.heap.size wr w3) := hb3
      have hlen : (verOf (L.take i) nm).length ≤ i := Nat.le_trans (verOf_len _ _) (List.length_take_le _ _)
      obtain ⟨q, hq⟩ : ∃ q, q = p.nm := ⟨_, rfl⟩
      rw [← hq] at hw3' d0 HTk
      clear hp hw3 hk5 hb3 hr3
      by_cases he : q = nm
      · have HT2 : Hid (verOf (L.take (i + 1)) nm = verOf (L.take i) nm ++ [p.vr]) := by show _ = _; rw [HTk.out, if_pos he]
        obtain ⟨t, ht⟩ : ∃ t, t = p.vr := ⟨_, rfl⟩
        rw [← ht] at hw3' d1 HT2
        have hown4 : (w3.alloc (.cells #[.string t] 9)).ownsRow w.heap.size 9 1 u5 (verOf (L.take i) nm).length ((verOf (L.take i) nm).map Value.string) := own_below (own_below (VfR.own HR.out) HB3.out) ((Below.refl _ _).alloc (Nat.le_refl _) _)
        have hlow : w.heap.size ≤ w3.heap.size := Nat.le_trans (VfR.old HR.out).size HB3.out.size
        have hrgq : wr.rangeAt g (off + i * 3) [.string q, .string t, .slice na nl nc] := by
          rw [hq, ht]
          exact hrg0
        subst he
        clear hq ht hrg hrg0
        go_wp2_with (first | refine wpList_load_mid rfl 44 _ rfl g (off + i * 3) rfl _ _ hrgq Tryz.underlying44 rfl infoPk ?_ | (refine wpList_store_new rfl 44 _ _ rfl wr zeroPk #[.string q, .string t, .slice na nl nc] 44 rfl wr.heap.size rfl rfl rfl infoPk rfl (pk_one _ _ _ _ _) ?_; rw [hw3']; rw [hk5']) | (at_builtin; refine wpList_ap_one rfl (some 22) rfl _ _ rfl w.heap.size u5 (verOf (L.take i) q).length ((verOf (L.take i) q).map Value.string) rfl t rfl w3.heap.size rfl hown4 rfl hlow (by omega) ?_; intro v5 w5 ho5 hg5))
        have hbx : Below wr.heap.size wr (w3.alloc (.cells #[.string t] 9)) := HB3.out.alloc HB3.out.size _
        have HR5 : Hid (VfR w w5 L q (i + 1) v5) := by
          refine ⟨by rw [HT2.out, List.length_append, List.map_append]; exact ho5, (VfR.old HR.out).trans ((hbx.mono (VfR.old HR.out).size).trans (below_own' hg5 (by simp; omega) fun k hk => (own_block hown4 k hk).1))⟩
        clear ho5 hg5 hown4 hbx
        go_roundw
        case rel => exact ⟨i + 1, by omega, by go_num, HR5.out⟩
        case measure => simp [intOf]; omega
      · have HT2 : Hid (verOf (L.take (i + 1)) nm = verOf (L.take i) nm) := by show _ = _; rw [HTk.out, if_neg he, List.append_nil]
        have hne1 : ¬ q.toList = nm.toList := fun e => he (list_eq.1 e)
        have hne2 : (q.toList == nm.toList) = false := by simpa using hne1
        have hrgq : wr.rangeAt g (off + i * 3) [.string q, .string p.vr, .slice na nl nc] := by
          rw [hq]
          exact hrg0
        have HR5 : Hid (VfR w w3 L nm (i + 1) u5) := ⟨by rw [HT2.out]; exact own_below (VfR.own HR.out) HB3.out, (VfR.old HR.out).trans (HB3.out.mono (VfR.old HR.out).size)⟩
        clear hq hrg hrg0 he
        go_wp2_with (first | refine wpList_load_mid rfl 44 _ rfl g (off + i * 3) rfl _ _ hrgq Tryz.underlying44 rfl infoPk ?_ | (refine wpList_store_new rfl 44 _ _ rfl wr zeroPk #[.string q, .string p.vr, .slice na nl nc] 44 rfl wr.heap.size rfl rfl rfl infoPk rfl (pk_one _ _ _ _ _) ?_; rw [hw3']; rw [hk5']))
        go_roundw
        case rel => exact ⟨i + 1, by omega, by go_num, HR5.out⟩
        case measure => simp [intOf]; omega
    · have hlt' : ¬ (i : Int) < (n : Int) := by omega
      have hti : L.take i = L := List.take_of_length_le (by have := HN.out; omega)
      have hown := VfR.own HR.out
      rw [hti] at hown
      have hvl := verOf_len L nm
      obtain ⟨V, hV⟩ : ∃ V, V = verOf L nm := ⟨_, rfl⟩
      rw [← hV] at hown hvl
      have HRV : Hid (∀ wr e w', Below w.heap.size w wr → SortPost V wr e w' → RP e w') := by rw [hV]; exact HRP.out
      have hTx : ∃ a2 c2, u5 = .slice a2 V.length c2 ∧ TxAt wr a2 V c2 := by
        have heach : ∀ x ∈ V, x.size ≤ 140737488355328 := fun x hx => by
          rw [hV] at hx
          unfold verOf at hx
          obtain ⟨p, hp1, hp2⟩ := List.mem_filterMap.1 hx
          by_cases e : p.nm = nm
          · rw [if_pos e] at hp2
            cases hp2
            exact (HFt.out p hp1).2.1
          · rw [if_neg e] at hp2
            cases hp2
        have hown' := hown
        obtain ⟨hlen, ⟨rfl, h0⟩ | ⟨gg, cap, cur, rfl, k2, k3, k4, _⟩⟩ := hown
        · exact ⟨none, 0, by rw [h0], ⟨0, 0, fun h => absurd h (by omega), fun j hj => absurd hj (by omega)⟩, by omega, heach⟩
        · refine ⟨some ⟨gg, 0, none⟩, cap, rfl, ⟨gg, 0, fun _ => rfl, fun j hj => ?_⟩, by simpa using k4, heach⟩
          rw [Nat.zero_add, hown'.cellAt j (by simpa using hj), List.getElem?_map, List.getElem?_eq_getElem hj]
          rfl
      obtain ⟨a2, c2, rfl, hTx2⟩ := hTx
      have hso := sort_ok V a2 c2 wr hTx2 (by have := HN.out; omega) (Pw.keep HT.out (VfR.old HR.out) (Pw.lt HT.out))
      have HB : Hid (Below w.heap.size w wr) := VfR.old HR.out
      obtain ⟨vn, hvn⟩ : ∃ vn, vn = V.length := ⟨_, rfl⟩
      have hvn' : V.length = vn := hvn.symm
      rw [← hvn] at hso
      have HVn : Hid (vn = V.length) := hvn
      clear hown hti hV hTx2 hvn hvl
      go_wp2_with fail
      refine hso.mono ?_
      rintro e w6 hpost
      have HRF : Hid (RP e w6) := HRV.out _ _ _ HB.out hpost
      obtain ⟨vs, rv, rfl, _, _, _, _⟩ := hpost
      clear hso
      go_wp2
      exact HRF.out
set_option maxRecDepth 20000 in
set_option maxHeartbeats 4000000 in
theorem refVersions_ok {L : List Pak} {pa : Option Addr} {pc : Nat} (nm : ByteArray) (w : World) (hL : PacksIn w (.slice pa L.length pc) L) (hl : L.length ≤ 1000) (hF : ∀ p ∈ L, p.vr.size ≤ 140737488355328) : Calls Tryz.prog 17 #[.slice pa L.length pc, .string nm] w (VersPost (verOf L nm) w) := by
  obtain ⟨a1, g, off, c1, he, h2, h3, h4, h5⟩ := hL.ex
  simp only [Value.slice.injEq, true_and] at he
  obtain ⟨rfl, rfl⟩ := he
  have HA1 : Hid (0 < L.length → pa = some ⟨g, off, none⟩) := fun h => (h3 h).1
  have HA5 : Hid (∀ wx, Below w.heap.size w wx → ∀ i (h : i < L.length), wx.cell? ⟨g, off + i * 3, none⟩ = some (.string L[i].nm) ∧ wx.cell? ⟨g, off + i * 3 + 1, none⟩ = some (.string L[i].vr)) := fun wx hx i hi => by
    obtain ⟨nv, k1, k2⟩ := h5 i hi
    exact ⟨(hx.cell (p := ⟨g, off + i * 3 + 0, none⟩) (h3 (by omega)).2).trans (k1 0 _ rfl), (hx.cell (p := ⟨g, off + i * 3 + 1, none⟩) (h3 (by omega)).2).trans (k1 1 _ rfl)⟩
  obtain ⟨RP, hRP⟩ : ∃ RP : Ending → World → Prop, RP = VersPost (verOf L nm) w := ⟨_, rfl⟩
  have HRP : Hid (∀ wr e w', Below w.heap.size w wr → SortPost (verOf L nm) wr e w' → RP e w') := fun wr e w' h1 h2 => by rw [hRP]; exact ⟨wr, h1, h2⟩
  rw [← hRP]
  have HF : Hid (∀ p ∈ L, p.vr.size ≤ 140737488355328) := hF
  obtain ⟨n, hn⟩ : ∃ n, n = L.length := ⟨_, rfl⟩
  have HN : Hid (n = L.length) := hn
  have hnn : L.length = n := hn.symm
  rw [hnn]
  rw [hnn] at h2 hl
  have H0 : Hid (VfR w w L nm 0 (.slice none 0 0)) := ⟨World.ownsRow_nil _ _ _ _, Below.refl _ _⟩
  clear hL h3 h4 h5 hn hnn hF hRP
  go_enter Tryz.func17, Tryz.ntmps17
  go_wp2
  go_loopw [5, 6] (fun tv iv wr => ∃ i : Nat, i ≤ n ∧ iv = .int .i64 i ∧ VfR w wr L nm i tv) (fun _ iv _ => n - (intOf iv).toNat)
  case atStart => exact ⟨0, Nat.zero_le _, rfl, H0.out⟩
  case round =>
    obtain ⟨i, hi, rfl, hR⟩ := hrel
    have HR : Hid (VfR w wr L nm i u5) := hR
    clear hR H0
    by_cases hlt : i < n
    · have hlt' : (i : Int) < (n : Int) := by omega
      have hiL : i < L.length := by have := HN.out; omega
      obtain rfl := HA1.out (by omega)
      obtain ⟨c0, c1⟩ := HA5.out wr (VfR.old HR.out) i hiL
      obtain ⟨q, hq⟩ : ∃ q, q = L[i].nm := ⟨_, rfl⟩
      obtain ⟨t, ht⟩ : ∃ t, t = L[i].vr := ⟨_, rfl⟩
      rw [← hq] at c0
      rw [← ht] at c1
      have HTk : Hid (verOf (L.take (i + 1)) nm = verOf (L.take i) nm ++ if q = nm then [t] else []) := by
        show _ = _
        rw [List.take_succ_eq_append_getElem hiL, verOf_snoc, hq, ht]
      have hlen : (verOf (L.take i) nm).length ≤ i := Nat.le_trans (verOf_len _ _) (List.length_take_le _ _)
      clear hq ht
      by_cases he : q = nm
      · have HT2 : Hid (verOf (L.take (i + 1)) nm = verOf (L.take i) nm ++ [t]) := by show _ = _; rw [HTk.out, if_pos he]
        have hown4 : (wr.alloc (.cells #[.string t] 9)).ownsRow w.heap.size 9 1 u5 (verOf (L.take i) nm).length ((verOf (L.take i) nm).map Value.string) := own_below (VfR.own HR.out) ((Below.refl _ _).alloc (Nat.le_refl _) _)
        have hlow : w.heap.size ≤ wr.heap.size := (VfR.old HR.out).size
        rw [he] at c0
        clear he
        go_wp2_with (at_builtin; refine wpList_ap_one rfl (some 27) rfl _ _ rfl w.heap.size u5 (verOf (L.take i) nm).length ((verOf (L.take i) nm).map Value.string) rfl t rfl wr.heap.size rfl hown4 rfl hlow (by omega) ?_; intro v5 w5 ho5 hg5)
        have hbx : Below wr.heap.size wr (wr.alloc (.cells #[.string t] 9)) := (Below.refl _ _).alloc (Nat.le_refl _) _
        have HR5 : Hid (VfR w w5 L nm (i + 1) v5) := by
          refine ⟨by rw [HT2.out, List.length_append, List.map_append]; exact ho5, (VfR.old HR.out).trans ((hbx.mono (VfR.old HR.out).size).trans (below_own' hg5 (by simp; omega) fun k hk => (own_block hown4 k hk).1))⟩
        clear ho5 hg5 hown4 hbx
        go_roundw
        case rel => exact ⟨i + 1, by omega, by go_num, HR5.out⟩
        case measure => simp [intOf]; omega
      · have HT2 : Hid (verOf (L.take (i + 1)) nm = verOf (L.take i) nm) := by show _ = _; rw [HTk.out, if_neg he, List.append_nil]
        have hne1 : ¬ q.toList = nm.toList := fun e => he (list_eq.1 e)
        have hne2 : (q.toList == nm.toList) = false := by simpa using hne1
        have HR5 : Hid (VfR w wr L nm (i + 1) u5) := ⟨by rw [HT2.out]; exact VfR.own HR.out, VfR.old HR.out⟩
        clear he
        go_wp2
        go_roundw
        case rel => exact ⟨i + 1, by omega, by go_num, HR5.out⟩
        case measure => simp [intOf]; omega
    · have hlt' : ¬ (i : Int) < (n : Int) := by omega
      have hti : L.take i = L := List.take_of_length_le (by have := HN.out; omega)
      have hown := VfR.own HR.out
      rw [hti] at hown
      have hvl := verOf_len L nm
      have heach : ∀ x ∈ verOf L nm, x.size ≤ 140737488355328 := fun x hx => by
        unfold verOf at hx
        obtain ⟨p, hp1, hp2⟩ := List.mem_filterMap.1 hx
        by_cases e : p.nm = nm
        · rw [if_pos e] at hp2
          cases hp2
          exact HF.out p hp1
        · rw [if_neg e] at hp2
          cases hp2
      have htx := own_tx rfl hown
      have hsl := slice_form hown
      obtain ⟨a2, _, c2, rfl, _⟩ := hsl
      have hso := refSort_ok (verOf L nm) a2 c2 wr htx heach (by have := HN.out; omega)
      have HB : Hid (Below w.heap.size w wr) := VfR.old HR.out
      obtain ⟨V, hV⟩ : ∃ V, V = verOf L nm := ⟨_, rfl⟩
      have HRV : Hid (∀ wr e w', Below w.heap.size w wr → SortPost V wr e w' → RP e w') := by rw [hV]; exact HRP.out
      rw [← hV] at hso
      obtain ⟨vn, hvn⟩ : ∃ vn, vn = (verOf L nm).length := ⟨_, rfl⟩
      have hvn2 : V.length = vn := by rw [hV, hvn]
      rw [hvn2] at hso
      rw [← hvn]
      clear hown hti hV hvl heach htx hvn hvn2
      go_wp2_with fail
      refine hso.mono ?_
      rintro e w6 hpost
      have HRF : Hid (RP e w6) := HRV.out _ _ _ HB.out hpost
      obtain ⟨vs, rv, rfl, _, _, _, _⟩ := hpost
      clear hso
      go_wp2
      exact HRF.out
end Go.Proofs.YtkbhckjpmgkgjaaGreatDoor
namespace Go.Proofs.YtkbhckjpmgkgjaaGreatDoor
open Go.RowKit

theorem fields_ned : Tryz.prog.fieldsOf 61 = #[{ name := "Name", type := 9, offset := 0, embedded := false, tag := "", pkgPath := "", byteOffset := 0 }, { name := "Range", type := 9, offset := 1, embedded := false, tag := "", pkgPath := "", byteOffset := 16 }] := by kernel_rfl
theorem equal_ned (a b : ByteArray) (w : World) : (Op.equal 61 (.agg #[.string a, .string b]) (.agg #[.string a, .string b])).run Tryz.prog w = .ok true w := by
  have h := run_equalIn_struct (P := Tryz.prog) w 9999 61 #[.string a, .string b] #[.string a, .string b] (by rw [fields_ned]; exact Tryz.underlying61) (by kernel_rfl)
  refine (show (Op.equal 61 (.agg #[.string a, .string b]) (.agg #[.string a, .string b])).run Tryz.prog w = _ from h).trans ?_
  rw [fields_ned]
  have p1 := part_str (.string a) (.string b) w
  have q1 := run_equalIn_string (P := Tryz.prog) w 9998 9 a a Tryz.underlying9
  have q2 := run_equalIn_string (P := Tryz.prog) w 9998 9 b b Tryz.underlying9
  simp only [Op.eqFields, Sem.run_bind, Sem.run_ite, p1.1, p1.2, q1, q2, Result.andThen_ok, Sem.run_pure]
  simp
theorem guardN : Tryz.prog.eqGuardType Tryz.prog.depth 61 = false := by kernel_rfl
theorem exec_neqN {w : World} {o : Oper} {act : Act} (a b : ByteArray) (x y : Operand) (ho : o.op = .binOp .neq 61 x y 61) (hx : act.eval x = .agg #[.string a, .string b]) (hy : act.eval y = .agg #[.string a, .string b]) :
    (execOp act.eval o).run Tryz.prog w = .ok (.value (.bool false)) w := by
  unfold execOp
  simp only [ho, hx, hy]
  have h1 := run_eqGuard_agg (P := Tryz.prog) w .neq 61 x y #[.string a, .string b] #[.string a, .string b] guardN
  have h2 := run_neq_struct (P := Tryz.prog) w 61 #[.string a, .string b] #[.string a, .string b]
  have he : (Op.equalIn 10000 61 (.agg #[.string a, .string b]) (.agg #[.string a, .string b])).run Tryz.prog w = .ok true w := equal_ned a b w
  rw [he] at h2
  simp only [Sem.run_bind, Sem.run_pure, Result.andThen_ok, h1, h2]
  rfl
/-- Packages in memory: where each one's texts and needs lie. -/
theorem packs_at {L : List Pak} {pa : Option Addr} {pc : Nat} {w : World} (hL : PacksIn w (.slice pa L.length pc) L) (i : Nat) (hi : i < L.length) : ∃ g off na nc, pa = some ⟨g, off, none⟩ ∧ (∀ wx, Below w.heap.size w wx → wx.cell? ⟨g, off + i * 3, none⟩ = some (.string L[i].nm) ∧ wx.cell? ⟨g, off + i * 3 + 1, none⟩ = some (.string L[i].vr) ∧ wx.cell? ⟨g, off + i * 3 + 2, none⟩ = some (.slice na L[i].nd.length nc)) ∧ (0 < L[i].nd.length → ∃ ng noff, na = some ⟨ng, noff, none⟩ ∧ ∀ wx, Below w.heap.size w wx → ∀ j (h : j < L[i].nd.length), wx.rangeAt ng (noff + j * 2) (encN L[i].nd[j])) := by
  obtain ⟨a1, g, off, c1, he, h2, h3, h4, h5⟩ := hL.ex
  simp only [Value.slice.injEq, true_and] at he
  obtain ⟨rfl, rfl⟩ := he
  obtain ⟨rfl, hg⟩ := h3 (by omega)
  obtain ⟨nv, k1, k2⟩ := h5 i hi
  obtain ⟨na, ng, noff, nc, rfl, m2, m3, m4, m5⟩ := k2.ex
  refine ⟨g, off, na, nc, rfl, fun wx hx => ⟨?_, ?_, ?_⟩, fun h0 => ?_⟩
  · exact (hx.cell (p := ⟨g, off + i * 3 + 0, none⟩) hg).trans (k1 0 _ rfl)
  · exact (hx.cell (p := ⟨g, off + i * 3 + 1, none⟩) hg).trans (k1 1 _ rfl)
  · exact (hx.cell (p := ⟨g, off + i * 3 + 2, none⟩) hg).trans (k1 2 _ rfl)
  · obtain ⟨hna, hlt⟩ := m3 h0
    exact ⟨ng, noff, hna, fun wx hx j hj q u hq => (hx.cell (p := ⟨ng, noff + j * 2 + q, none⟩) hlt).trans (m5 j hj q u hq)⟩
set_option maxRecDepth 40000 in
set_option maxHeartbeats 16000000 in
theorem refSame_ok {L : List Pak} {pa qa : Option Addr} {pc qc : Nat} (w : World) (hP : PacksIn w (.slice pa L.length pc) L) (hQ : PacksIn w (.slice qa L.length qc) L) (hl : L.length ≤ 140737488355328) (hnd : ∀ p ∈ L, p.nd.length ≤ 140737488355328) : Calls Tryz.prog 9 #[.slice pa L.length pc, .slice qa L.length qc] w fun e w' => e = .returned (.bool true) ∧ Below w.heap.size w w' := by
  have HP : Hid (PacksIn w (.slice pa L.length pc) L) := hP
  have HQ : Hid (PacksIn w (.slice qa L.length qc) L) := hQ
  have HND : Hid (∀ p ∈ L, p.nd.length ≤ 140737488355328) := hnd
  have hpc : L.length ≤ pc := by obtain ⟨_, _, _, _, he, h2, _⟩ := hP.ex; simp only [Value.slice.injEq, true_and] at he; rw [he.2]; exact h2
  have hqc : L.length ≤ qc := by obtain ⟨_, _, _, _, he, h2, _⟩ := hQ.ex; simp only [Value.slice.injEq, true_and] at he; rw [he.2]; exact h2
  obtain ⟨n, hn⟩ : ∃ n, n = L.length := ⟨_, rfl⟩
  have HN : Hid (n = L.length) := hn
  rw [← hn]
  rw [← hn] at hl hpc hqc
  clear hP hQ hnd hn
  go_enter Tryz.func9, Tryz.ntmps9
  go_wp2
  go_loopw [5] (fun iv wi => ∃ i : Nat, i ≤ n ∧ iv = .int .i64 i ∧ Below w.heap.size w wi) (fun iv _ => n - (intOf iv).toNat)
  case atStart => exact ⟨0, Nat.zero_le _, rfl, Below.refl _ _⟩
  case round =>
    obtain ⟨i, hi, rfl, hb⟩ := hrel
    have HB : Hid (Below w.heap.size w wr) := hb
    clear hb
    by_cases hlt : i < n
    · have hlt' : (i : Int) < (n : Int) := by omega
      have hiL : i < L.length := by have := HN.out; omega
      obtain ⟨g, off, na, nc, rfl, hp1, hp2⟩ := packs_at HP.out i hiL
      obtain ⟨g', off', na', nc', rfl, hq1, hq2⟩ := packs_at HQ.out i hiL
      obtain ⟨p, hp⟩ : ∃ p, p = L[i] := ⟨_, rfl⟩
      rw [← hp] at hp1 hp2 hq1 hq2
      obtain ⟨m, hm⟩ : ∃ m, m = p.nd.length := ⟨_, rfl⟩
      have HM : Hid (m = p.nd.length) := hm
      have hm9 : m ≤ 140737488355328 := by rw [hm, hp]; exact HND.out _ (List.getElem_mem _)
      rw [← hm] at hp1 hq1
      have HBq : Hid (∀ q, Below w.heap.size w (wr.drewN q)) := fun q => HB.out.trans ⟨rfl, rfl, rfl, Nat.le_refl _, fun _ _ => rfl⟩
      have HP1 : Hid (∀ wx, Below w.heap.size w wx → wx.cell? ⟨g, off + i * 3, none⟩ = some (.string p.nm) ∧ wx.cell? ⟨g, off + i * 3 + 1, none⟩ = some (.string p.vr) ∧ wx.cell? ⟨g, off + i * 3 + 2, none⟩ = some (.slice na m nc)) := hp1
      have HQ1 : Hid (∀ wx, Below w.heap.size w wx → wx.cell? ⟨g', off' + i * 3, none⟩ = some (.string p.nm) ∧ wx.cell? ⟨g', off' + i * 3 + 1, none⟩ = some (.string p.vr) ∧ wx.cell? ⟨g', off' + i * 3 + 2, none⟩ = some (.slice na' m nc')) := hq1
      have HP2 : Hid _ := hp2
      have HQ2 : Hid _ := hq2
      obtain ⟨c0, c1, c2⟩ := HP1.out wr HB.out
      obtain ⟨e0, e1, e2⟩ := HQ1.out wr HB.out
      clear hp hm hp1 hp2 hq1 hq2
      go_wp2
      go_quiet (fail)
      go_wp2
      obtain ⟨wE, rfl⟩ : ∃ x, x = wr := ⟨wr, rfl⟩
      clear c0 c1 c2 e0 e1 e2
      go_loopw [6] (fun jv wi => ∃ j : Nat, j ≤ m ∧ jv = .int .i64 j ∧ Below w.heap.size w wi) (fun jv _ => m - (intOf jv).toNat)
      case atStart => exact ⟨0, Nat.zero_le _, rfl, HBq.out _⟩
      case round =>
        obtain ⟨j, hj, rfl, hb⟩ := hrel
        have HBj : Hid (Below w.heap.size w wr) := hb
        clear hb
        have c2 := (HP1.out wr HBj.out).2.2
        by_cases hjm : j < m
        · have hjm' : (j : Int) < (m : Int) := by omega
          have hjd : j < p.nd.length := by have := HM.out; omega
          obtain ⟨ng, noff, hna, hr1⟩ := HP2.out (by omega)
          obtain ⟨ng', noff', hna', hr2⟩ := HQ2.out (by omega)
          subst hna
          subst hna'
          obtain ⟨nd, hnd⟩ : ∃ x, x = p.nd[j] := ⟨_, rfl⟩
          have HR1 : Hid (∀ wx, Below w.heap.size w wx → wx.rangeAt ng (noff + j * 2) (encN nd)) := fun wx hx => by rw [hnd]; exact hr1 wx hx j hjd
          have HR2 : Hid (∀ wx, Below w.heap.size w wx → wx.rangeAt ng' (noff' + j * 2) (encN nd)) := fun wx hx => by rw [hnd]; exact hr2 wx hx j hjd
          have HBd : Hid (Below w.heap.size w wr.drew) := HBj.out.drew
          clear hr1 hr2 hnd
          go_upto_region 11 with fail
          clear c2
          refine wp_region_permA [(false, 0), (false, 1), (false, 2), (false, 3), (false, 4), (false, 5), (false, 6), (false, 7), (false, 8), (false, 9), (false, 10), (false, 11), (false, 12), (false, 13), (false, 14), (false, 15), (false, 16)] (fun wx => Below w.heap.size w wx) (by kernel_rfl) (by kernel_rfl) HBd.out ?_
          refine a_value (some 67) ?_ rfl rfl (by rfl) (fun wx hw => ?_) ?_
          rotate_left
          · go_simp
            with_reducible rfl
          simp only [Act.put, List.setIfInBounds_toArray, List.set_cons_zero, List.set_cons_succ]
          refine a_value (some 68) ?_ rfl rfl (by rfl) (fun wx hw => ?_) ?_
          rotate_left
          · go_simp
            with_reducible rfl
          simp only [Act.put, List.setIfInBounds_toArray, List.set_cons_zero, List.set_cons_succ]
          refine a_value (some 69) ?_ rfl rfl (by rfl) (fun wx hw => ?_) ?_
          rotate_left
          · go_simp
            with_reducible rfl
          simp only [Act.put, List.setIfInBounds_toArray, List.set_cons_zero, List.set_cons_succ]
          refine a_value (some 70) ?_ rfl rfl (by rfl) (fun wx hw => ?_) ?_
          rotate_left
          · go_simp
            with_reducible rfl
          simp only [Act.put, List.setIfInBounds_toArray, List.set_cons_zero, List.set_cons_succ]
          refine a_value (some 71) ?_ rfl rfl (by rfl) (fun wx hw => ?_) ?_
          rotate_left
          · have hc := (HP1.out wx hw).2.2
            go_simp
            with_reducible rfl
          simp only [Act.put, List.setIfInBounds_toArray, List.set_cons_zero, List.set_cons_succ]
          refine a_value (some 72) ?_ rfl rfl (by rfl) (fun wx hw => ?_) ?_
          rotate_left
          · go_simp
            with_reducible rfl
          simp only [Act.put, List.setIfInBounds_toArray, List.set_cons_zero, List.set_cons_succ]
          refine a_value (some 73) ?_ rfl rfl (by rfl) (fun wx hw => ?_) ?_
          rotate_left
          · go_simp
            with_reducible rfl
          simp only [Act.put, List.setIfInBounds_toArray, List.set_cons_zero, List.set_cons_succ]
          refine a_load_mid (some 74) 61 _ rfl rfl rfl (by rfl) ng (noff + j * 2) rfl (encN nd) _ (fun wx hw => HR1.out wx hw) Tryz.underlying61 rfl infoNd ?_
          simp only [Act.put, List.setIfInBounds_toArray, List.set_cons_zero, List.set_cons_succ]
          refine a_value (some 75) ?_ rfl rfl (by rfl) (fun wx hw => ?_) ?_
          rotate_left
          · go_simp
            with_reducible rfl
          simp only [Act.put, List.setIfInBounds_toArray, List.set_cons_zero, List.set_cons_succ]
          refine a_value (some 76) ?_ rfl rfl (by rfl) (fun wx hw => ?_) ?_
          rotate_left
          · go_simp
            with_reducible rfl
          simp only [Act.put, List.setIfInBounds_toArray, List.set_cons_zero, List.set_cons_succ]
          refine a_value (some 77) ?_ rfl rfl (by rfl) (fun wx hw => ?_) ?_
          rotate_left
          · go_simp
            with_reducible rfl
          simp only [Act.put, List.setIfInBounds_toArray, List.set_cons_zero, List.set_cons_succ]
          refine a_value (some 78) ?_ rfl rfl (by rfl) (fun wx hw => ?_) ?_
          rotate_left
          · go_simp
            with_reducible rfl
          simp only [Act.put, List.setIfInBounds_toArray, List.set_cons_zero, List.set_cons_succ]
          refine a_value (some 79) ?_ rfl rfl (by rfl) (fun wx hw => ?_) ?_
          rotate_left
          · have hc := (HQ1.out wx hw).2.2
            go_simp
            with_reducible rfl
          simp only [Act.put, List.setIfInBounds_toArray, List.set_cons_zero, List.set_cons_succ]
          refine a_value (some 80) ?_ rfl rfl (by rfl) (fun wx hw => ?_) ?_
          rotate_left
          · go_simp
            with_reducible rfl
          simp only [Act.put, List.setIfInBounds_toArray, List.set_cons_zero, List.set_cons_succ]
          refine a_value (some 81) ?_ rfl rfl (by rfl) (fun wx hw => ?_) ?_
          rotate_left
          · go_simp
            with_reducible rfl
          simp only [Act.put, List.setIfInBounds_toArray, List.set_cons_zero, List.set_cons_succ]
          refine a_load_mid (some 82) 61 _ rfl rfl rfl (by rfl) ng' (noff' + j * 2) rfl (encN nd) _ (fun wx hw => HR2.out wx hw) Tryz.underlying61 rfl infoNd ?_
          simp only [Act.put, List.setIfInBounds_toArray, List.set_cons_zero, List.set_cons_succ]
          refine a_value (some 83) (.bool false) rfl rfl (by rfl) (fun wx hw => exec_neqN nd.nm nd.rg _ _ rfl rfl rfl) ?_
          simp only [Act.put, List.setIfInBounds_toArray, List.set_cons_zero, List.set_cons_succ]
          refine a_done ?_
          try simp only [Exit.then]
          go_wp2
          go_roundw
          case rel => exact ⟨j + 1, by omega, by go_num, HBd.out⟩
          case measure => simp [intOf]; omega
        · have hjm' : ¬ (j : Int) < (m : Int) := by omega
          go_wp2
          go_roundw
          case rel => exact ⟨i + 1, by omega, by go_num, HBj.out⟩
          case measure => simp [intOf]; omega
    · have hlt' : ¬ (i : Int) < (n : Int) := by omega
      go_wp2
      go_ret
      exact ⟨rfl, HB.out⟩
end Go.Proofs.YtkbhckjpmgkgjaaGreatDoor
namespace Go.Proofs.YtkbhckjpmgkgjaaGreatDoor
open Go.RowKit

theorem textV_small {v : Ver} (hmay : May v) : (textV v).length ≤ 60 := by
  have h1 := join_small hmay
  have h2 := hmay.tag
  unfold textV tagT
  rw [List.length_append]
  by_cases ht : vb v.tag = []
  · rw [if_pos ht]
    simp
    omega
  · rw [if_neg ht, List.length_cons]
    rcases h2 with h | h
    · exact absurd h ht
    · unfold tagB at h
      rw [Bool.and_eq_true, decide_eq_true_eq] at h
      omega
theorem nameI_small {s : ByteArray} (h : nameI (vb s) = true) : s.size ≤ 20 := by
  unfold nameI at h
  rw [Bool.and_eq_true, Bool.and_eq_true, decide_eq_true_eq, vb_len] at h
  exact h.1.1.2
theorem needs_mem : ∀ {l A : List Ned}, needsE A l = 0 → ∀ n ∈ l, ∃ B, rightN n B = 0 := by
  intro l
  induction l with
  | nil => intro A _ n hn; cases hn
  | cons m r ih =>
    intro A h n hn
    obtain ⟨h1, h2⟩ := needsE_cons0.1 h
    rcases List.mem_cons.1 hn with rfl | hn
    · exact ⟨A, h1⟩
    · exact ih h2 n hn
/-- Packages that may be have short names and versions. -/
theorem right_small {L : List Pak} (h : rightL L = 0) : ∀ p ∈ L, p.nm.size ≤ 20 ∧ p.vr.size ≤ 60 ∧ p.nd.length ≤ 64 ∧ ∀ n ∈ p.nd, n.nm.size ≤ 20 := fun p hp => by
  obtain ⟨⟨_, g2⟩, g3⟩ := rightL_zero.1 h
  obtain ⟨B, hB⟩ := packs_mem g3 p hp
  obtain ⟨k1, k2⟩ := packE_parts hB
  obtain ⟨k3, ⟨v, k4⟩, _⟩ := rightP_ok k1
  refine ⟨nameI_small k3, ?_, g2 p hp, fun n hn => ?_⟩
  · obtain ⟨m1, m2⟩ := parse_back k4
    have := textV_small m1
    rw [m2, vb_len] at this
    exact this
  · obtain ⟨A, hA⟩ := needs_mem k2 n hn
    exact nameI_small (rightN_ok hA).1
/-- Ranges that are not too long. -/
def RgS (L : List Pak) : Prop := ∀ p ∈ L, ∀ n ∈ p.nd, n.rg.size ≤ 4194304
theorem lineI_len (a n s : By) : (lineI a n s).length = a.length + n.length + s.length + 3 := by unfold lineI; simp; omega
theorem needT_small {n : Ned} (h1 : n.nm.size ≤ 20) (h2 : n.rg.size ≤ 4194304) : (needT n).length ≤ 4194340 := by
  unfold needT
  rw [lineI_len, vb_len, vb_len]
  have : wNeed.length = 5 := rfl
  omega
theorem flat_small {α : Type} (f : α → By) (K : Nat) : ∀ l : List α, (∀ x ∈ l, (f x).length ≤ K) → ((l.map f).flatten).length ≤ l.length * K
  | [], _ => Nat.zero_le _
  | x :: r, h => by
    have h1 := flat_small f K r fun y hy => h y (List.mem_cons_of_mem _ hy)
    have h2 := h x List.mem_cons_self
    simp only [List.map_cons, List.flatten_cons, List.length_append, List.length_cons, Nat.add_mul, Nat.one_mul]
    omega
theorem packT_small {L : List Pak} (h : rightL L = 0) (hR : RgS L) {p : Pak} (hp : p ∈ L) : (packT p).length ≤ 268438000 := by
  obtain ⟨h1, h2, h3, h4⟩ := right_small h p hp
  unfold packT
  rw [List.length_append, lineI_len, vb_len, vb_len]
  have h5 := flat_small needT 4194340 p.nd fun n hn => needT_small (h4 n hn) (hR p hp n hn)
  have h6 : p.nd.length * 4194340 ≤ 64 * 4194340 := Nat.mul_le_mul_right _ h3
  have : wPack.length = 7 := rfl
  omega
theorem textL_take {L : List Pak} (h : rightL L = 0) (hR : RgS L) (i : Nat) : (textL (L.take i)).length ≤ i * 268438000 := by
  unfold textL
  have h1 := flat_small packT 268438000 (L.take i) fun p hp => packT_small h hR (List.mem_of_mem_take hp)
  have h2 : (L.take i).length * 268438000 ≤ i * 268438000 := Nat.mul_le_mul_right _ (List.length_take_le _ _)
  exact Nat.le_trans h1 h2
theorem need_take {L : List Pak} (h : rightL L = 0) (hR : RgS L) {p : Pak} (hp : p ∈ L) (j : Nat) : (((p.nd.take j).map needT).flatten).length ≤ 268437760 := by
  obtain ⟨_, _, h3, h4⟩ := right_small h p hp
  have h5 := flat_small needT 4194340 (p.nd.take j) fun n hn => needT_small (h4 n (List.mem_of_mem_take hn)) (hR p hp n (List.mem_of_mem_take hn))
  have h6 : (p.nd.take j).length * 4194340 ≤ 64 * 4194340 := Nat.mul_le_mul_right _ (by rw [List.length_take]; omega)
  exact Nat.le_trans h5 h6
theorem textL_go {L : List Pak} {i : Nat} (h : i < L.length) : textL (L.take (i + 1)) = textL (L.take i) ++ packT L[i] := by rw [List.take_succ_eq_append_getElem h, textL_snoc]
theorem need_go {l : List Ned} {j : Nat} (h : j < l.length) : ((l.take (j + 1)).map needT).flatten = ((l.take j).map needT).flatten ++ needT l[j] := by
  rw [List.take_succ_eq_append_getElem h, List.map_append, List.flatten_append]
  show _ ++ (needT l[j] ++ []) = _
  rw [List.append_nil]
end Go.Proofs.YtkbhckjpmgkgjaaGreatDoor
namespace Go.Proofs.YtkbhckjpmgkgjaaGreatDoor
open Go.RowKit

/-- Text's answer. -/
noncomputable def textIE (L : List Pak) : Value := if rightL L = 0 then .tuple #[.string (tx (textL L)), .int .i64 0] else .tuple #[.string ⟨#[]⟩, .int .i64 (rightL L)]
theorem textIE_no {L : List Pak} {R : Int} (hR : R = rightL L) (h : R ≠ 0) : textIE L = .tuple #[.string ⟨#[]⟩, .int .i64 R] := by unfold textIE; rw [← hR, if_neg h]
theorem textIE_yes {L : List Pak} (h : rightL L = 0) : textIE L = .tuple #[.string (tx (textL L)), .int .i64 0] := by unfold textIE; rw [if_pos h]
set_option maxRecDepth 40000 in
set_option maxHeartbeats 16000000 in
theorem textI_ok {L : List Pak} {pv : Value} (w : World) (hL : PacksIn w pv L) (hF : FitP L) (hRg : RgS L) (hl : L.length ≤ 1000) : Calls Tryz.prog 14 #[pv] w fun e w' => e = .returned (textIE L) ∧ Below w.heap.size w w' := by
  have hri := right_ok w hL hF (by omega)
  obtain ⟨R, hR⟩ : ∃ R, R = rightL L := ⟨_, rfl⟩
  have HR : Hid (R = rightL L) := hR
  rw [← hR] at hri
  have HRg : Hid (RgS L) := hRg
  obtain ⟨a, g, off, c, rfl, h2, h3, h4, h5⟩ := hL.ex
  have HA1 : Hid (0 < L.length → a = some ⟨g, off, none⟩) := fun h => (h3 h).1
  have HA5 : Hid (∀ i (h : i < L.length), ∃ na nc, (∀ wx, Below w.heap.size w wx → wx.rangeAt g (off + i * 3) (encP L[i] (.slice na L[i].nd.length nc))) ∧ ∀ wx, Below w.heap.size w wx → NeedsIn wx (.slice na L[i].nd.length nc) L[i].nd) := fun i hi => by
    obtain ⟨nv, k1, k2⟩ := h5 i hi
    have k2' := k2
    obtain ⟨na, _, _, nc, rfl, _⟩ := k2.ex
    exact ⟨na, nc, fun wx hx j u hj => (hx.cell (p := ⟨g, off + i * 3 + j, none⟩) (h3 (by omega)).2).trans (k1 j u hj), fun wx hx => k2'.keep (Nat.le_refl _) hx⟩
  obtain ⟨n, hn⟩ : ∃ n, n = L.length := ⟨_, rfl⟩
  have HN : Hid (n = L.length) := hn
  have hnn : L.length = n := hn.symm
  rw [hnn]
  rw [hnn] at h2 hl hri
  clear hL h3 h4 h5 hn hnn hR hF hRg
  by_cases hz : R = 0
  case neg =>
    have HE : Hid (textIE L = .tuple #[.string ⟨#[]⟩, .int .i64 R]) := textIE_no HR.out hz
    have hzb := beqI hz
    go_enter Tryz.func14, Tryz.ntmps14
    go_wp2_with fail
    refine hri.mono ?_
    rintro e w1 ⟨rfl, hb1⟩
    have HB1 : Hid (Below w.heap.size w w1) := hb1
    clear hri hb1
    go_wp2
    go_ret2
    exact ⟨by rw [HE.out]; rfl, HB1.out⟩
  case pos =>
    have HR0 : Hid (rightL L = 0) := by show _ = _; rw [← HR.out]; exact hz
    have HE : Hid (textIE L = .tuple #[.string (tx (textL L)), .int .i64 0]) := textIE_yes HR0.out
    subst hz
    clear HR
    go_enter Tryz.func14, Tryz.ntmps14
    go_wp2_with fail
    refine hri.mono ?_
    rintro e w1 ⟨rfl, hb1⟩
    have HB1 : Hid (Below w.heap.size w w1) := hb1
    have H0 : Hid (BF.Buf w1 w.heap.size (.slice none 0 0) []) := World.ownsRow_nil _ _ _ _
    clear hri hb1
    go_wp2
    go_loopw [5, 17] (fun bv iv wr => ∃ (i : Nat) (X : By), i ≤ n ∧ iv = .int .i64 i ∧ Hid (BF.Buf wr w.heap.size bv X) ∧ Hid (X = textL (L.take i)) ∧ Hid (Below w.heap.size w wr)) (fun _ iv _ => n - (intOf iv).toNat)
    case atStart => exact ⟨0, [], Nat.zero_le _, rfl, H0, by show _ = _; rfl, HB1⟩
    case round =>
      obtain ⟨i, X, hi, rfl, HBf, HX, HB⟩ := hrel
      by_cases hlt : i < n
      · have hlt' : (i : Int) < (n : Int) := by omega
        have hiL : i < L.length := by have := HN.out; omega
        obtain rfl := HA1.out (by omega)
        obtain ⟨na, nc, hrg0, hno⟩ := HA5.out i hiL
        have hrg := hrg0 wr HB.out
        obtain ⟨p, hp⟩ : ∃ p, p = L[i] := ⟨_, rfl⟩
        rw [← hp] at hrg hno
        have hpL : p ∈ L := by rw [hp]; exact List.getElem_mem _
        obtain ⟨hs1, hs2, hs3, hs4⟩ := right_small HR0.out p hpL
        have HS4 : Hid (∀ n ∈ p.nd, n.nm.size ≤ 20) := hs4
        have HG4 : Hid (∀ n ∈ p.nd, n.rg.size ≤ 4194304) := HRg.out p hpL
        have HTk : Hid (textL (L.take (i + 1)) = X ++ packT p) := by show _ = _; rw [textL_go hiL, HX.out, hp]
        have HNT : Hid (∀ j, (((p.nd.take j).map needT).flatten).length ≤ 268437760) := need_take HR0.out HRg.out hpL
        have hXl : X.length ≤ 1000 * 268438000 := by
          rw [HX.out]
          exact Nat.le_trans (textL_take HR0.out HRg.out i) (Nat.mul_le_mul_right _ (by omega))
        obtain ⟨nl, hnl⟩ : ∃ nl, nl = p.nd.length := ⟨_, rfl⟩
        rw [← hnl] at hrg hno hs3
        have HNo : Hid (∀ wx, Below w.heap.size w wx → NeedsIn wx (.slice na nl nc) p.nd) := hno
        have HNl : Hid (nl = p.nd.length) := hnl
        have hb3 : Below wr.heap.size wr (wr.alloc (.cells #[.string p.nm, .string p.vr, .slice na nl nc] 44)) := (Below.refl _ _).alloc (Nat.le_refl _) _
        have hr3 : Row (wr.alloc (.cells #[.string p.nm, .string p.vr, .slice na nl nc] 44)) wr.heap.size #[.string p.nm, .string p.vr, .slice na nl nc] 44 := Row.new _ _ _
        obtain ⟨w3, hw3⟩ : ∃ x, x = wr.alloc (.cells #[.string p.nm, .string p.vr, .slice na nl nc] 44) := ⟨_, rfl⟩
        rw [← hw3] at hb3 hr3
        have hw3' := hw3.symm
        obtain ⟨k5, hk5⟩ : ∃ k, k = wr.heap.size := ⟨_, rfl⟩
        have hk5' := hk5.symm
        rw [← hk5] at hr3
        have HB3 : Hid (Below w.heap.size w w3) := HB.out.trans (hb3.mono HB.out.size)
        have HBf3 : Hid (BF.Buf w3 w.heap.size u5 X) := BF.Buf.keep HBf.out hb3
        have HR3 : Hid (Row w3 k5 #[.string p.nm, .string p.vr, .slice na nl nc] 44) := hr3
        have hal := BF.appendLine_ok w.heap.size u5 X ⟨#[112, 97, 99, 107, 97, 103, 101]⟩ p.nm p.vr w3 HBf3.out HB3.out.size (by have e : (⟨#[112, 97, 99, 107, 97, 103, 101]⟩ : ByteArray).size = 7 := rfl; omega)
        have d0 : w3.cell? ⟨k5, 0, none⟩ = some (.string p.nm) := (hr3.cell 0).trans rfl
        have d1 : w3.cell? ⟨k5, 1, none⟩ = some (.string p.vr) := (hr3.cell 1).trans rfl
        clear hp hnl hw3 hk5 hb3 hpL hno hrg0 hs4 hr3
        go_wp2_with (first | refine wpList_load_mid rfl 44 _ rfl g (off + i * 3) rfl _ _ hrg Tryz.underlying44 rfl infoPk ?_ | (refine wpList_store_new rfl 44 _ _ rfl wr zeroPk #[.string p.nm, .string p.vr, .slice na nl nc] 44 rfl wr.heap.size rfl rfl rfl infoPk rfl (pk_one _ _ _ _ _) ?_; rw [hw3']; rw [hk5']) | fail)
        refine hal.mono ?_
        rintro e w4 ⟨v4, rfl, hm4⟩
        have HBf4 : Hid (BF.Buf w4 w.heap.size v4 (X ++ lineI wPack (vb p.nm) (vb p.vr))) := hm4.buf
        have HB4 : Hid (Below w.heap.size w w4) := HB3.out.trans (hm4.below HBf3.out HB3.out.size)
        have hr4 : Row w4 k5 #[.string p.nm, .string p.vr, .slice na nl nc] 44 := hm4.row HBf3.out HR3.out (by decide)
        have d2 : w4.cell? ⟨k5, 2, none⟩ = some (.slice na nl nc) := (hr4.cell 2).trans rfl
        obtain ⟨Y, hY⟩ : ∃ Y, Y = X ++ lineI wPack (vb p.nm) (vb p.vr) := ⟨_, rfl⟩
        rw [← hY] at HBf4
        have hYl : Y.length ≤ 1000 * 268438000 + 90 := by rw [hY, List.length_append, lineI_len, vb_len, vb_len]; have : wPack.length = 7 := rfl; omega
        have HTk2 : Hid (textL (L.take (i + 1)) = Y ++ (p.nd.map needT).flatten) := by show _ = _; rw [HTk.out, hY]; unfold packT; rw [List.append_assoc]
        clear hal hm4 hr4 hrg hw3' hY d0 d1 HB3 HBf3 HR3
        go_wp2
        clear d2
        go_loopw [5, 30] (fun bv jv wi => ∃ (j : Nat) (Z : By), j ≤ nl ∧ jv = .int .i64 j ∧ Hid (BF.Buf wi w.heap.size bv Z) ∧ Hid (Z = Y ++ ((p.nd.take j).map needT).flatten) ∧ Hid (Below w.heap.size w wi)) (fun _ jv _ => nl - (intOf jv).toNat)
        case atStart => exact ⟨0, Y, Nat.zero_le _, rfl, HBf4, by show _ = _; simp, HB4⟩
        case round =>
          obtain ⟨j, Z, hj, rfl, HBz, HZ, HBr⟩ := hrel
          by_cases hjl : j < nl
          · have hjl' : (j : Int) < (nl : Int) := by omega
            have hjd : j < p.nd.length := by have := HNl.out; omega
            obtain ⟨na', ng, noff, nc', hne, hncl, hn3, _, hn5⟩ := (HNo.out wr HBr.out).ex
            simp only [Value.slice.injEq] at hne
            obtain ⟨rfl, -, rfl⟩ := hne
            obtain ⟨rfl, hng⟩ := hn3 (by omega)
            have hrg := hn5 j hjd
            obtain ⟨nd, hndq⟩ : ∃ nd, nd = p.nd[j] := ⟨_, rfl⟩
            rw [← hndq] at hrg
            have hm1 := HS4.out nd (by rw [hndq]; exact List.getElem_mem _)
            have hm2 := HG4.out nd (by rw [hndq]; exact List.getElem_mem _)
            have HTj : Hid (Y ++ ((p.nd.take (j + 1)).map needT).flatten = Z ++ needT nd) := by show _ = _; rw [need_go hjd, HZ.out, hndq, List.append_assoc]
            have hZl : Z.length ≤ 1000 * 268438000 + 90 + 268437760 := by rw [HZ.out, List.length_append]; have := HNT.out j; omega
            have hb7 : Below wr.heap.size wr (wr.alloc (.cells #[.string nd.nm, .string nd.rg] 61)) := (Below.refl _ _).alloc (Nat.le_refl _) _
            have hr7 : Row (wr.alloc (.cells #[.string nd.nm, .string nd.rg] 61)) wr.heap.size #[.string nd.nm, .string nd.rg] 61 := Row.new _ _ _
            obtain ⟨w7, hw7⟩ : ∃ x, x = wr.alloc (.cells #[.string nd.nm, .string nd.rg] 61) := ⟨_, rfl⟩
            rw [← hw7] at hb7 hr7
            have hw7' := hw7.symm
            obtain ⟨k8, hk8⟩ : ∃ k, k = wr.heap.size := ⟨_, rfl⟩
            have hk8' := hk8.symm
            rw [← hk8] at hr7
            have HB7 : Hid (Below w.heap.size w w7) := HBr.out.trans (hb7.mono HBr.out.size)
            have HBz7 : Hid (BF.Buf w7 w.heap.size u5 Z) := BF.Buf.keep HBz.out hb7
            have hal := BF.appendLine_ok w.heap.size u5 Z ⟨#[110, 101, 101, 100, 115]⟩ nd.nm nd.rg w7 HBz7.out HB7.out.size (by have e : (⟨#[110, 101, 101, 100, 115]⟩ : ByteArray).size = 5 := rfl; omega)
            have d0 : w7.cell? ⟨k8, 0, none⟩ = some (.string nd.nm) := (hr7.cell 0).trans rfl
            have d1 : w7.cell? ⟨k8, 1, none⟩ = some (.string nd.rg) := (hr7.cell 1).trans rfl
            clear hndq hw7 hk8 hb7 hn3 hn5 hng hr7
            go_wp2_with (first | refine wpList_load_mid rfl 61 _ rfl ng (noff + j * 2) rfl _ _ hrg Tryz.underlying61 rfl infoNd ?_ | (refine wpList_store_new rfl 61 _ _ rfl wr zeroNd #[.string nd.nm, .string nd.rg] 61 rfl wr.heap.size rfl rfl rfl infoNd rfl (nd_one _ _) ?_; rw [hw7']; rw [hk8']) | fail)
            refine hal.mono ?_
            rintro e w8 ⟨v8, rfl, hm8⟩
            have HBf8 : Hid (BF.Buf w8 w.heap.size v8 (Z ++ needT nd)) := hm8.buf
            have HB8 : Hid (Below w.heap.size w w8) := HB7.out.trans (hm8.below HBz7.out HB7.out.size)
            clear hal hm8 hrg hw7' d0 d1
            go_wp2
            go_roundw
            case rel => exact ⟨j + 1, _, by omega, by go_num, HBf8, HTj.out.symm, HB8⟩
            case measure => simp [intOf]; omega
          · have hjl' : ¬ (j : Int) < (nl : Int) := by omega
            have HZ2 : Hid (Z = textL (L.take (i + 1))) := by show _ = _; rw [HTk2.out, HZ.out, List.take_of_length_le (by have := HNl.out; omega)]
            go_wp2
            go_roundw
            case rel => exact ⟨i + 1, Z, by omega, by go_num, HBz, HZ2, HBr⟩
            case measure => simp [intOf]; omega
      · have hlt' : ¬ (i : Int) < (n : Int) := by omega
        have hcv := BF.conv_buf wr w.heap.size _ X HBf.out
        have HXe : Hid (X = textL L) := by show _ = _; rw [HX.out, List.take_of_length_le (by have := HN.out; omega)]
        go_wp2
        go_ret2
        exact ⟨by rw [HE.out, ← HXe.out]; rfl, HB.out⟩
end Go.Proofs.YtkbhckjpmgkgjaaGreatDoor
namespace Go.Proofs.YtkbhckjpmgkgjaaGreatDoor
open Go.RowKit

theorem FitR.rg {L : List Pak} (h : FitR L) : RgS L := fun p hp n hn => ((h p hp).2.2 n hn).2
theorem pack_line (S nm vr : ByteArray) : vb (S ++ ⟨#[112, 97, 99, 107, 97, 103, 101, 32]⟩ ++ nm ++ ⟨#[32]⟩ ++ vr ++ ⟨#[10]⟩) = vb S ++ lineI wPack (vb nm) (vb vr) := by
  simp [lineI, wPack, vb, ByteArray.data_append]
theorem need_line (S nm vr : ByteArray) : vb (S ++ ⟨#[110, 101, 101, 100, 115, 32]⟩ ++ nm ++ ⟨#[32]⟩ ++ vr ++ ⟨#[10]⟩) = vb S ++ lineI wNeed (vb nm) (vb vr) := by
  simp [lineI, wNeed, vb, ByteArray.data_append]
set_option maxRecDepth 40000 in
set_option maxHeartbeats 16000000 in
theorem refTextI_ok {L : List Pak} {pa : Option Addr} {pc : Nat} (w : World) (hL : PacksIn w (.slice pa L.length pc) L) (hF : FitR L) (hl : L.length ≤ 1000) (hnd : ∀ p ∈ L, p.nd.length ≤ 140737488355328) : Calls Tryz.prog 15 #[.slice pa L.length pc] w fun e w' => e = .returned (textIE L) ∧ Below w.heap.size w w' := by
  have hri := refRight_ok w hL hF (by omega) hnd
  obtain ⟨R, hR⟩ : ∃ R, R = rightL L := ⟨_, rfl⟩
  have HR : Hid (R = rightL L) := hR
  rw [← hR] at hri
  have HRg : Hid (RgS L) := hF.rg
  obtain ⟨a1, g, off, c1, he, h2, h3, h4, h5⟩ := hL.ex
  simp only [Value.slice.injEq, true_and] at he
  obtain ⟨rfl, rfl⟩ := he
  have HA1 : Hid (0 < L.length → pa = some ⟨g, off, none⟩) := fun h => (h3 h).1
  have HA5 : Hid (∀ i (h : i < L.length), ∃ na nc, (∀ wx, Below w.heap.size w wx → wx.rangeAt g (off + i * 3) (encP L[i] (.slice na L[i].nd.length nc))) ∧ ∀ wx, Below w.heap.size w wx → NeedsIn wx (.slice na L[i].nd.length nc) L[i].nd) := fun i hi => by
    obtain ⟨nv, k1, k2⟩ := h5 i hi
    have k2' := k2
    obtain ⟨na, _, _, nc, rfl, _⟩ := k2.ex
    exact ⟨na, nc, fun wx hx j u hj => (hx.cell (p := ⟨g, off + i * 3 + j, none⟩) (h3 (by omega)).2).trans (k1 j u hj), fun wx hx => k2'.keep (Nat.le_refl _) hx⟩
  obtain ⟨n, hn⟩ : ∃ n, n = L.length := ⟨_, rfl⟩
  have HN : Hid (n = L.length) := hn
  have hnn : L.length = n := hn.symm
  rw [hnn]
  rw [hnn] at h2 hl hri
  clear hL h3 h4 h5 hn hnn hR hF hnd
  by_cases hz : R = 0
  case neg =>
    have HE : Hid (textIE L = .tuple #[.string ⟨#[]⟩, .int .i64 R]) := textIE_no HR.out hz
    have hzb := beqI hz
    go_enter Tryz.func15, Tryz.ntmps15
    go_wp2_with fail
    refine hri.mono ?_
    rintro e w1 ⟨rfl, hb1⟩
    have HB1 : Hid (Below w.heap.size w w1) := hb1
    clear hri hb1
    go_wp2
    go_ret2
    exact ⟨by rw [HE.out]; rfl, HB1.out⟩
  case pos =>
    have HR0 : Hid (rightL L = 0) := by show _ = _; rw [← HR.out]; exact hz
    have HE : Hid (textIE L = .tuple #[.string (tx (textL L)), .int .i64 0]) := textIE_yes HR0.out
    subst hz
    clear HR
    go_enter Tryz.func15, Tryz.ntmps15
    go_wp2_with fail
    refine hri.mono ?_
    rintro e w1 ⟨rfl, hb1⟩
    have HB1 : Hid (Below w.heap.size w w1) := hb1
    clear hri hb1
    go_wp2
    go_loopw [5, 6] (fun bv iv wr => ∃ (i : Nat) (S : ByteArray), i ≤ n ∧ iv = .int .i64 i ∧ bv = .string S ∧ Hid (vb S = textL (L.take i)) ∧ Hid (Below w.heap.size w wr)) (fun _ iv _ => n - (intOf iv).toNat)
    case atStart => exact ⟨0, ⟨#[]⟩, Nat.zero_le _, rfl, rfl, by show _ = _; rfl, HB1⟩
    case round =>
      obtain ⟨i, S, hi, rfl, rfl, HX, HB⟩ := hrel
      by_cases hlt : i < n
      · have hlt' : (i : Int) < (n : Int) := by omega
        have hiL : i < L.length := by have := HN.out; omega
        obtain rfl := HA1.out (by omega)
        obtain ⟨na, nc, hrg0, hno⟩ := HA5.out i hiL
        obtain ⟨p, hp⟩ : ∃ p, p = L[i] := ⟨_, rfl⟩
        rw [← hp] at hrg0 hno
        have hpL : p ∈ L := by rw [hp]; exact List.getElem_mem _
        obtain ⟨hs1, hs2, hs3, hs4⟩ := right_small HR0.out p hpL
        have HS4 : Hid (∀ n ∈ p.nd, n.nm.size ≤ 20) := hs4
        have HG4 : Hid (∀ n ∈ p.nd, n.rg.size ≤ 4194304) := HRg.out p hpL
        have HNT : Hid (∀ j, (((p.nd.take j).map needT).flatten).length ≤ 268437760) := need_take HR0.out HRg.out hpL
        have hSl : S.size ≤ 268438000000 := by
          rw [← vb_len, HX.out]
          have h1 := textL_take HR0.out HRg.out i
          have h2 : i * 268438000 ≤ 1000 * 268438000 := Nat.mul_le_mul_right _ (by omega)
          omega
        obtain ⟨nl, hnl⟩ : ∃ nl, nl = p.nd.length := ⟨_, rfl⟩
        rw [← hnl] at hrg0 hno hs3
        have HNo : Hid (∀ wx, Below w.heap.size w wx → NeedsIn wx (.slice na nl nc) p.nd) := hno
        have HNl : Hid (nl = p.nd.length) := hnl
        have HC : Hid (∀ wx, Below w.heap.size w wx → wx.cell? ⟨g, off + i * 3, none⟩ = some (.string p.nm) ∧ wx.cell? ⟨g, off + i * 3 + 1, none⟩ = some (.string p.vr) ∧ wx.cell? ⟨g, off + i * 3 + 2, none⟩ = some (.slice na nl nc)) := fun wx hx => ⟨hrg0 wx hx 0 _ rfl, hrg0 wx hx 1 _ rfl, hrg0 wx hx 2 _ rfl⟩
        obtain ⟨c0, c1, -⟩ := HC.out wr HB.out
        obtain ⟨nm, hnm⟩ : ∃ x, x = p.nm := ⟨_, rfl⟩
        obtain ⟨vr, hvr⟩ : ∃ x, x = p.vr := ⟨_, rfl⟩
        rw [← hnm] at c0 hs1
        rw [← hvr] at c1 hs2
        obtain ⟨T, hT⟩ : ∃ T, T = S ++ ⟨#[112, 97, 99, 107, 97, 103, 101, 32]⟩ ++ nm ++ ⟨#[32]⟩ ++ vr ++ ⟨#[10]⟩ := ⟨_, rfl⟩
        have HT : Hid (vb T ++ (p.nd.map needT).flatten = textL (L.take (i + 1))) := by
          show _ = _
          rw [hT, pack_line, textL_go hiL, HX.out, ← hp, hnm, hvr]
          unfold packT
          rw [List.append_assoc]
        have hTl : T.size ≤ 268438000100 := by
          rw [hT]
          simp only [ByteArray.size_append]
          have e1 : (⟨#[112, 97, 99, 107, 97, 103, 101, 32]⟩ : ByteArray).size = 8 := rfl
          have e2 : (⟨#[32]⟩ : ByteArray).size = 1 := rfl
          have e3 : (⟨#[10]⟩ : ByteArray).size = 1 := rfl
          omega
        have HTl : Hid (T.size ≤ 268438000100) := hTl
        have hT' := hT.symm
        have HBq : Hid (∀ q, Below w.heap.size w (wr.drewN q)) := fun q => HB.out.trans ⟨rfl, rfl, rfl, Nat.le_refl _, fun _ _ => rfl⟩
        clear hp hnl hpL hno hrg0 hs4 hT hnm hvr hTl
        go_wp2
        go_quiet (fail)
        generalize hwq : wr.drewN _ = wq at *
        have HBw : Hid (Below w.heap.size w wq) := by rw [← hwq]; exact HBq.out _
        clear hwq c0 c1 hT'
        go_wp2
        go_loopw [5, 7] (fun bv jv wi => ∃ (j : Nat) (Z : ByteArray), j ≤ nl ∧ jv = .int .i64 j ∧ bv = .string Z ∧ Hid (vb Z = vb T ++ ((p.nd.take j).map needT).flatten) ∧ Hid (Below w.heap.size w wi)) (fun _ jv _ => nl - (intOf jv).toNat)
        case atStart => exact ⟨0, T, Nat.zero_le _, rfl, rfl, by show _ = _; simp, HBw⟩
        case round =>
          obtain ⟨j, Z, hj, rfl, rfl, HZ, HBr⟩ := hrel
          obtain ⟨-, -, c2⟩ := HC.out wr HBr.out
          by_cases hjl : j < nl
          · have hjl' : (j : Int) < (nl : Int) := by omega
            have hjd : j < p.nd.length := by have := HNl.out; omega
            obtain ⟨na', ng, noff, nc', hne, hncl, hn3, _, hn5⟩ := (HNo.out wr HBr.out).ex
            simp only [Value.slice.injEq] at hne
            obtain ⟨rfl, -, rfl⟩ := hne
            obtain ⟨rfl, hng⟩ := hn3 (by omega)
            have e0 : wr.cell? ⟨ng, noff + j * 2, none⟩ = some (.string p.nd[j].nm) := hn5 j hjd 0 _ rfl
            have e1 : wr.cell? ⟨ng, noff + j * 2 + 1, none⟩ = some (.string p.nd[j].rg) := hn5 j hjd 1 _ rfl
            obtain ⟨nd, hndq⟩ : ∃ nd, nd = p.nd[j] := ⟨_, rfl⟩
            rw [← hndq] at e0 e1
            have hm1 := HS4.out nd (by rw [hndq]; exact List.getElem_mem _)
            have hm2 := HG4.out nd (by rw [hndq]; exact List.getElem_mem _)
            have hZl : Z.size ≤ 268438000100 + 268437760 := by rw [← vb_len, HZ.out, List.length_append, vb_len]; have := HNT.out j; have := HTl.out; omega
            obtain ⟨nm2, hnm2⟩ : ∃ x, x = nd.nm := ⟨_, rfl⟩
            obtain ⟨rg2, hrg2⟩ : ∃ x, x = nd.rg := ⟨_, rfl⟩
            rw [← hnm2] at e0 hm1
            rw [← hrg2] at e1 hm2
            obtain ⟨V, hV⟩ : ∃ V, V = Z ++ ⟨#[110, 101, 101, 100, 115, 32]⟩ ++ nm2 ++ ⟨#[32]⟩ ++ rg2 ++ ⟨#[10]⟩ := ⟨_, rfl⟩
            have HV : Hid (vb V = vb T ++ ((p.nd.take (j + 1)).map needT).flatten) := by
              show _ = _
              rw [hV, need_line, need_go hjd, HZ.out, ← hndq, hnm2, hrg2, List.append_assoc]
              rfl
            have hV' := hV.symm
            have HBj : Hid (∀ q, Below w.heap.size w (wr.drewN q)) := fun q => HBr.out.trans ⟨rfl, rfl, rfl, Nat.le_refl _, fun _ _ => rfl⟩
            clear hndq hn3 hn5 hng hV hnm2 hrg2
            go_wp2
            go_quiet (fail)
            go_wp2
            go_roundw
            case rel => exact ⟨j + 1, V, by omega, by go_num, rfl, HV, HBj.out _⟩
            case measure => simp [intOf]; omega
          · have hjl' : ¬ (j : Int) < (nl : Int) := by omega
            have HZ2 : Hid (vb Z = textL (L.take (i + 1))) := by show _ = _; rw [HZ.out, List.take_of_length_le (by have := HNl.out; omega), HT.out]
            go_wp2
            go_roundw
            case rel => exact ⟨i + 1, Z, by omega, by go_num, rfl, HZ2, HBr⟩
            case measure => simp [intOf]; omega
      · have hlt' : ¬ (i : Int) < (n : Int) := by omega
        have HXe : Hid (S = tx (textL L)) := by show _ = _; rw [← tx_vb S, HX.out, List.take_of_length_le (by have := HN.out; omega)]
        go_wp2
        go_ret2
        exact ⟨by rw [HE.out, ← HXe.out]; rfl, HB.out⟩
end Go.Proofs.YtkbhckjpmgkgjaaGreatDoor
namespace Go.Proofs.YtkbhckjpmgkgjaaGreatDoor
open Go.RowKit

theorem names15_ok (w : World) : Calls Tryz.prog 10 #[] w fun e w' => e = .returned (.bool true) ∧ w' = w := by
  go_enter Tryz.func10, Tryz.ntmps10
  go_wp2
  go_ret
  exact ⟨rfl, rfl⟩
theorem textIE_form (L : List Pak) : ∃ (S : ByteArray) (E : Int), textIE L = .tuple #[.string S, .int .i64 E] := by
  unfold textIE
  split
  · exact ⟨_, _, rfl⟩
  · exact ⟨_, _, rfl⟩
/-- Texts that lie somewhere: in short. -/
structure TxS (W : World) (v : Value) (X : List ByteArray) (n : Nat) : Prop where
  ex : ∃ (a : Option Addr) (g off c : Nat), v = .slice a n c ∧ n ≤ c ∧ (0 < n → a = some ⟨g, off, none⟩) ∧ ∀ wx, Below W.heap.size W wx → ∀ i (h : i < X.length), wx.cell? ⟨g, off + i, none⟩ = some (.string X[i])
theorem TxB.short {W : World} {v : Value} {X : List ByteArray} {n : Nat} (h : TxB W v X W.heap.size) (hn : X.length = n) : TxS W v X n := by
  obtain ⟨a, g, off, c, h1, h2, h3, _, h4⟩ := h.ex
  subst hn
  exact ⟨a, g, off, c, h1, h3, fun hh => (h2 hh).1, fun wx hx i hi => (hx.cell (p := ⟨g, off + i, none⟩) (h2 (by omega)).2).trans (h4 i hi)⟩
set_option maxRecDepth 40000 in
set_option maxHeartbeats 16000000 in
theorem law_tells15 {L : List Pak} {pa : Option Addr} {pc : Nat} (nm : ByteArray) (hnm : nm.size ≤ 140737488355328) (w : World) (hL : PacksIn w (.slice pa L.length pc) L) (hF : FitP L) (hR : FitR L) (hl : L.length ≤ 140737488355328) (hnd : ∀ p ∈ L, p.nd.length ≤ 140737488355328) (hT : Pw w) : Calls Tryz.prog 4 #[.slice pa L.length pc, .string nm] w fun e w' => e = .returned (.bool true) ∧ Below w.heap.size w w' := by
  have hfew := few_ok w hL hl hnd
  have HPk : Hid (∀ wx, Below w.heap.size w wx → PacksIn wx (.slice pa L.length pc) L) := fun wx hx => hL.keep (Nat.le_refl _) hx
  have HF : Hid (FitP L) := hF
  have HFR : Hid (FitR L) := hR
  have HT : Hid (Pw w) := hT
  have HND0 : Hid (∀ p ∈ L, p.nd.length ≤ 140737488355328) := hnd
  obtain ⟨n, hn⟩ : ∃ n, n = L.length := ⟨_, rfl⟩
  have HN : Hid (n = L.length) := hn
  rw [← hn] at hl hfew ⊢
  have HPn : Hid (∀ wx, Below w.heap.size w wx → PacksIn wx (.slice pa n pc) L) := fun wx hx => by rw [hn]; exact HPk.out wx hx
  clear hL hF hR hT hnd hn
  go_enter Tryz.func4, Tryz.ntmps4
  go_wp2_with fail
  refine hfew.mono ?_
  rintro e w1 ⟨b, rfl, hb, hw1⟩
  rw [hw1]
  clear hw1 hfew
  cases b with
  | false =>
    clear hb
    by_cases h1024 : n ≤ 1024
    · have h1024' : (n : Int) ≤ 1024 := by omega
      go_wp2
      go_ret
      exact ⟨rfl, Below.refl _ _⟩
    · have h1024' : ¬ (n : Int) ≤ 1024 := by omega
      have hri := right_ok w (HPn.out w (Below.refl _ _)) HF.out (by have := HN.out; omega)
      rw [rightL_big (by have := HN.out; omega)] at hri
      go_wp2_with fail
      refine hri.mono ?_
      rintro e w2 ⟨rfl, hb2⟩
      have HB2 : Hid (Below w.heap.size w w2) := hb2
      clear hri hb2
      go_wp2
      go_ret
      exact ⟨rfl, HB2.out⟩
  | true =>
    obtain ⟨hb1, hb2⟩ := hb rfl
    have hown := own_ok (L := L) w (HPk.out w (Below.refl _ _)) (by have := HN.out; omega) (fun p hp => by have := hb2 p hp; omega)
    have HND : Hid (∀ p ∈ L, p.nd.length < 300) := hb2
    have hn300 : n < 300 := by have := HN.out; omega
    obtain ⟨S, E, hSE⟩ := textIE_form L
    have HSE : Hid (textIE L = .tuple #[.string S, .int .i64 E]) := hSE
    rw [← HN.out] at hown
    clear hb hb1 hb2 hl hSE
    go_wp2_with fail
    refine hown.mono ?_
    rintro e w2 ⟨ov, D, rfl, hD, hO⟩
    have HB2 : Hid (Below w.heap.size w w2) := hO.old
    have hDn : D.length = n := by have h := congrArg List.length hD; rw [List.length_map] at h; have := HN.out; omega
    have hpk2 := hO.packs
    rw [hD] at hpk2
    obtain ⟨oa, oc, rfl⟩ := slice_of hO.own
    rw [hDn] at hpk2 ⊢
    have HO2 : Hid (∀ wx, Below w2.heap.size w2 wx → PacksIn wx (.slice oa n oc) L) := fun wx hx => hpk2.keep (Nat.le_refl _) hx
    have htx := textI_ok w2 hpk2 HF.out HFR.out.rg (by have := HN.out; omega)
    rw [HSE.out] at htx
    clear hown hD hO hDn hpk2
    go_wp2_with fail
    refine htx.mono ?_
    rintro e w3 ⟨rfl, hb3⟩
    have HC3 : Hid (Below w2.heap.size w2 w3) := hb3
    have HB3 : Hid (Below w.heap.size w w3) := HB2.out.trans (hb3.mono HB2.out.size)
    have hrt := refTextI_ok w3 (HPk.out w3 HB3.out) HFR.out (by have := HN.out; omega) HND0.out
    rw [HSE.out, ← HN.out] at hrt
    clear htx hb3
    go_wp2_with fail
    refine hrt.mono ?_
    rintro e w4 ⟨rfl, hb4⟩
    have HC4 : Hid (Below w2.heap.size w2 w4) := HC3.out.trans (hb4.mono HC3.out.size)
    have HB4 : Hid (Below w.heap.size w w4) := HB3.out.trans (hb4.mono HB3.out.size)
    have hvs := versionsC_ok nm w4 (HO2.out w4 HC4.out) (by have := HN.out; omega) HF.out (Pw.keep HT.out HB4.out (Pw.lt HT.out))
    obtain ⟨V, hV⟩ : ∃ V, V = verOf L nm := ⟨_, rfl⟩
    have HV : Hid (V = verOf L nm) := hV
    rw [← hV] at hvs
    clear hrt hb4 hV
    go_wp2_with fail
    refine hvs.mono ?_
    rintro e w5 ⟨w4b, hb4b, vs, xv, rfl, hvp, hvf, hox, hb5⟩
    have hb45 : Below w4.heap.size w4 w5 := hb4b.trans (hb5.mono hb4b.size)
    have HC5 : Hid (Below w2.heap.size w2 w5) := HC4.out.trans (hb45.mono HC4.out.size)
    have HB5 : Hid (Below w.heap.size w w5) := HB4.out.trans (hb45.mono HB4.out.size)
    obtain ⟨X, hX⟩ : ∃ X, X = sortedT vs V := ⟨_, rfl⟩
    have HX : Hid (X = sortedT vs V) := hX
    obtain ⟨m, hm⟩ : ∃ m, m = V.length := ⟨_, rfl⟩
    have HM : Hid (m = V.length) := hm
    have hXm : X.length = m := by rw [hX, sorted_len hvp, hm]
    have HXm : Hid (X.length = m) := hXm
    have hox2 : w5.ownsRow w4b.heap.size 9 1 xv m (X.map Value.string) := by
      have h : w5.ownsRow w4b.heap.size 9 1 xv V.length ((sortedT vs V).map Value.string) := hox
      rw [← hX, ← hm] at h
      exact h
    have htx := (own_tx hXm hox2).short hXm
    obtain ⟨xa, xg, xoff, xc, rfl, hxc, hxa, hxcell⟩ := htx.ex
    have HXA : Hid (0 < m → xa = some ⟨xg, xoff, none⟩) := hxa
    have HXC : Hid (∀ wx, Below w5.heap.size w5 wx → ∀ i (h : i < X.length), wx.cell? ⟨xg, xoff + i, none⟩ = some (.string X[i])) := hxcell
    have HVP : Hid (vs.Perm (versOf V)) := hvp
    have HVF : Hid (Falls vs) := hvf
    have hrv := refVersions_ok nm w5 (HPk.out w5 HB5.out) (by have := HN.out; omega) (fun p hp => (HF.out p hp).2.1)
    rw [← HV.out, ← HN.out] at hrv
    clear hvs hb4b hb5 hb45 hX hm hXm hox hox2 htx hxa hxcell hvp hvf
    go_wp2_with fail
    refine hrv.mono ?_
    rintro e w6 ⟨w5b, hb5b, us, yv, rfl, hup, huf, hoy, hb6⟩
    have hb56 : Below w5.heap.size w5 w6 := hb5b.trans (hb6.mono hb5b.size)
    have HC6 : Hid (Below w2.heap.size w2 w6) := HC5.out.trans (hb56.mono HC5.out.size)
    have HB6 : Hid (Below w.heap.size w w6) := HB5.out.trans (hb56.mono HB5.out.size)
    have HD6 : Hid (Below w5.heap.size w5 w6) := hb56
    have hvu : us = vs := falls_one (hup.trans HVP.out.symm) huf HVF.out
    have hoy2 : w6.ownsRow w5b.heap.size 9 1 yv m (X.map Value.string) := by
      have h : w6.ownsRow w5b.heap.size 9 1 yv V.length ((sortedT us V).map Value.string) := hoy
      rw [hvu, ← HX.out, ← HM.out] at h
      exact h
    have hty := (own_tx HXm.out hoy2).short HXm.out
    obtain ⟨ya, yg, yoff, yc, rfl, hyc, hya, hycell⟩ := hty.ex
    have HYA : Hid (0 < m → ya = some ⟨yg, yoff, none⟩) := hya
    have HYC : Hid (∀ wx, Below w6.heap.size w6 wx → ∀ i (h : i < X.length), wx.cell? ⟨yg, yoff + i, none⟩ = some (.string X[i])) := hycell
    have hmle : m ≤ 300 := by rw [HM.out, HV.out]; have := verOf_len L nm; have := HN.out; omega
    obtain ⟨R, hRR⟩ : ∃ R, R = rightL L := ⟨_, rfl⟩
    have HR : Hid (R = rightL L) := hRR
    have hr1 := right_ok w6 (HO2.out w6 HC6.out) HF.out (by have := HN.out; omega)
    rw [← hRR] at hr1
    clear hrv hb5b hb6 hb56 hvu hup huf hoy hoy2 hty hya hycell hRR HV HX HM HVP HVF
    go_wp2_with fail
    refine hr1.mono ?_
    rintro e w7 ⟨rfl, hb7⟩
    have HC7 : Hid (Below w2.heap.size w2 w7) := HC6.out.trans (hb7.mono HC6.out.size)
    have HB7 : Hid (Below w.heap.size w w7) := HB6.out.trans (hb7.mono HB6.out.size)
    have HD7 : Hid (Below w6.heap.size w6 w7) := hb7
    have hr2 := refRight_ok w7 (HPk.out w7 HB7.out) HFR.out (by have := HN.out; omega) HND0.out
    rw [← HR.out, ← HN.out] at hr2
    clear hr1 hb7
    go_wp2_with fail
    refine hr2.mono ?_
    rintro e w8 ⟨rfl, hb8⟩
    have HC8 : Hid (Below w2.heap.size w2 w8) := HC7.out.trans (hb8.mono HC7.out.size)
    have HB8 : Hid (Below w.heap.size w w8) := HB7.out.trans (hb8.mono HB7.out.size)
    have HD8 : Hid (Below w6.heap.size w6 w8) := HD7.out.trans (hb8.mono HD7.out.size)
    have hn1 := name_call nm hnm w8
    have hn2 := refName_ok nm hnm w8
    obtain ⟨bn, hbn⟩ : ∃ b, b = nameI (vb nm) := ⟨_, rfl⟩
    rw [← hbn] at hn1 hn2
    clear hr2 hb8 hbn
    go_wp2_with fail
    refine hn1.mono ?_
    rintro e w9 ⟨rfl, hw9⟩
    rw [hw9]
    clear hw9 hn1
    go_wp2_with fail
    refine hn2.mono ?_
    rintro e w9 ⟨rfl, hw9⟩
    rw [hw9]
    clear hw9 hn2
    have hsm := refSame_ok (L := L) (pa := oa) (pc := oc) (qa := pa) (qc := pc) w8 (by rw [← HN.out]; exact HO2.out w8 HC8.out) (HPk.out w8 HB8.out) (by have := HN.out; omega) HND0.out
    rw [← HN.out] at hsm
    have hbb : (bn != bn) = false := by cases bn <;> rfl
    go_wp2_with fail
    refine hsm.mono ?_
    rintro e w10 ⟨rfl, hb10⟩
    have HB10 : Hid (Below w.heap.size w w10) := HB8.out.trans (hb10.mono HB8.out.size)
    have HD10 : Hid (Below w6.heap.size w6 w10) := HD8.out.trans (hb10.mono HD8.out.size)
    clear hsm hb10
    go_wp2
    go_loopw [12] (fun iv wi => ∃ i : Nat, i ≤ m ∧ iv = .int .i64 i ∧ Below w10.heap.size w10 wi) (fun iv _ => m - (intOf iv).toNat)
    case atStart => exact ⟨0, Nat.zero_le _, rfl, Below.refl _ _⟩
    case round =>
      obtain ⟨i, hi, rfl, hb⟩ := hrel
      have HBi : Hid (Below w10.heap.size w10 wr) := hb
      clear hb
      by_cases hlt : i < m
      · have hlt' : (i : Int) < (m : Int) := by omega
        have hiX : i < X.length := by have := HXm.out; omega
        obtain rfl := HXA.out (by omega)
        obtain rfl := HYA.out (by omega)
        have hD : Below w6.heap.size w6 wr := HD10.out.trans (HBi.out.mono HD10.out.size)
        have cx := HXC.out wr (HD6.out.trans (hD.mono HD6.out.size)) i hiX
        have cy := HYC.out wr hD i hiX
        obtain ⟨x, hx⟩ : ∃ x, x = X[i] := ⟨_, rfl⟩
        rw [← hx] at cx cy
        have HBq : Hid (∀ q, Below w10.heap.size w10 (wr.drewN q)) := fun q => HBi.out.trans ⟨rfl, rfl, rfl, Nat.le_refl _, fun _ _ => rfl⟩
        clear hx hD
        go_wp2
        go_quiet (fail)
        go_wp2
        go_roundw
        case rel => exact ⟨i + 1, by omega, by go_num, HBq.out _⟩
        case measure => simp [intOf]; omega
      · have hlt' : ¬ (i : Int) < (m : Int) := by omega
        have HBf : Hid (Below w.heap.size w wr) := HB10.out.trans (HBi.out.mono HB10.out.size)
        have hnam := names15_ok wr
        go_wp2_with fail
        refine hnam.mono ?_
        rintro e w11 ⟨rfl, hw11⟩
        rw [hw11]
        clear hw11 hnam
        go_wp2
        go_ret
        exact ⟨rfl, HBf.out⟩
end Go.Proofs.YtkbhckjpmgkgjaaGreatDoor
