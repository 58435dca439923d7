/- The walk of the law BlockApart. -/
import Derived.Test.YtpdcmhfmicemnaaTexts
import Derived.Deep.DeepCutAuto
namespace Go.Proofs.Ytpdcmhfmicemnaa
open Go.RowKit

/-- The four sectors' texts. -/
def strRow (B : Nat → Int) : Array Value := #[.string (S B 0), .string (S B 1), .string (S B 2), .string (S B 3)]
theorem strRow_at (B : Nat → Int) (k : Nat) (h : k < 4) : (strRow B)[k]? = some (.string (S B k)) := by
  match k, h with
  | 0, _ => rfl
  | 1, _ => rfl
  | 2, _ => rfl
  | 3, _ => rfl
theorem strRow_over (B : Nat → Int) (n : Nat) (f : Nat → Int) (h : n < 4) : (strRow B).setIfInBounds n (.string (sStr f)) = strRow (over B n f) := by
  unfold strRow
  simp only [S_over]
  match n, h with
  | 0, _ => simp
  | 1, _ => simp
  | 2, _ => simp
  | 3, _ => simp
/-- The first k texts are laid. -/
def part4 (z : ByteArray) (k : Nat) : Array Value := #[.string (if 0 < k then z else ⟨#[]⟩), .string (if 1 < k then z else ⟨#[]⟩), .string (if 2 < k then z else ⟨#[]⟩), .string (if 3 < k then z else ⟨#[]⟩)]
theorem part4_set (z : ByteArray) (k : Nat) (h : k < 4) : (part4 z k).setIfInBounds k (.string z) = part4 z (k + 1) := by
  unfold part4
  match k, h with
  | 0, _ => simp
  | 1, _ => simp
  | 2, _ => simp
  | 3, _ => simp
theorem part4_cell (z : ByteArray) (k : Nat) (h : k < 4) : ∃ s, (part4 z k)[k]? = some (.string s) := by
  unfold part4
  match k, h with
  | 0, _ => exact ⟨_, rfl⟩
  | 1, _ => exact ⟨_, rfl⟩
  | 2, _ => exact ⟨_, rfl⟩
  | 3, _ => exact ⟨_, rfl⟩
theorem part4_new (z : ByteArray) (k : Nat) (h : k < 4) : (part4 z (k + 1))[k]? = some (.string z) := by
  unfold part4
  match k, h with
  | 0, _ => simp
  | 1, _ => simp
  | 2, _ => simp
  | 3, _ => simp
theorem part4_done (B : Nat → Int) (z : ByteArray) (h : ∀ k, S B k = z) : part4 z 4 = strRow B := by
  unfold part4 strRow
  simp [h]

/-- What holds all through the acts. -/
structure Ap (w0 : World) (g g1 c1 g2 c2 nF nN : Nat) (ev : Value) (D : Dk) (Fl : Nat → Int) (w : World) : Prop where
  disk : DiskAt w w0.heap.size g g1 c1 g2 c2 ev D
  fl : Row w nF (strRow Fl) 55
  now : Row w nN (strRow D.B) 55
  hist : Hist D Fl
  s4 : D.s = 4
  ne : nF ≠ nN
  geF : w0.heap.size ≤ nF
  geN : w0.heap.size ≤ nN
  old : Below w0.heap.size w0 w
theorem Ap.next {w0 : World} {g g1 c1 g2 c2 nF nN : Nat} {ev : Value} {D : Dk} {Fl : Nat → Int} {w w' : World} (h : Ap w0 g g1 c1 g2 c2 nF nN ev D Fl w) (hb : Below w.heap.size w w') : Ap w0 g g1 c1 g2 c2 nF nN ev D Fl w' :=
  ⟨h.disk.below hb (Nat.le_refl _), h.fl.below hb h.fl.lt, h.now.below hb h.now.lt, h.hist, h.s4, h.ne, h.geF, h.geN, h.old.trans (hb.mono h.old.size)⟩

theorem DiskAt.keepT {w w' : World} {base g g1 c1 g2 c2 : Nat} {ev : Value} {D : Dk} (h : DiskAt w base g g1 c1 g2 c2 ev D) (hk : ∀ k C t, Row w k C t → t = 45 ∨ t = 5 ∨ t = 65 → w'.heap[k]? = w.heap[k]?) : DiskAt w' base g g1 c1 g2 c2 ev D := by
  obtain ⟨_, _, _, _, cu1, r1, _⟩ := ownsRow_slice h.first
  obtain ⟨_, _, _, _, cu2, r2, _⟩ := ownsRow_slice h.now
  refine h.keep fun k hq => ?_
  rcases hq with rfl | rfl | rfl | hq
  · exact hk _ _ _ h.row (.inl rfl)
  · exact hk _ _ _ r1 (.inr (.inl rfl))
  · exact hk _ _ _ r2 (.inr (.inl rfl))
  · obtain ⟨_, _, cur, r3⟩ := ownsRow_lt h.evs k hq
    exact hk _ _ _ r3 (.inr (.inr rfl))
theorem Ap.swap {w0 : World} {g g1 c1 g2 c2 nF nN : Nat} {ev : Value} {D : Dk} {Fl : Nat → Int} {w w' : World} (h : Ap w0 g g1 c1 g2 c2 nF nN ev D Fl w) (hk : ∀ k C t, Row w k C t → t = 45 ∨ t = 5 ∨ t = 65 ∨ t = 55 → w'.heap[k]? = w.heap[k]?) (hb : Below w0.heap.size w0 w') : Ap w0 g g1 c1 g2 c2 nF nN ev D Fl w' :=
  ⟨h.disk.keepT fun k C t hr ht => hk k C t hr (by rcases ht with h | h | h <;> simp [h]), (hk _ _ _ h.fl (by simp)).trans h.fl, (hk _ _ _ h.now (by simp)).trans h.now, h.hist, h.s4, h.ne, h.geF, h.geN, hb⟩
/-- Rows of another kind stay where a row of one's own grows. -/
theorem row_grown {w w' : World} {B s n : Nat} {e : TypeId} {v : Value} {xs : List Value} (hown : w.ownsRow B e s v n xs) (hg : w.grownBy w' v.ownBlock) {k : Nat} {C : Array Value} {t : TypeId} (hr : Row w k C t) (ht : t ≠ e) : w'.heap[k]? = w.heap[k]? :=
  hg.block k hr.lt (fun hq => by
    obtain ⟨_, _, cur, h2⟩ := ownsRow_lt hown k hq.symm
    have := h2.symm.trans hr
    simp at this
    exact ht this.2.symm)
theorem row_ne {w : World} {k k' : Nat} {C C' : Array Value} {t t' : TypeId} (h : Row w k C t) (h' : Row w k' C' t') (ht : t ≠ t') : k ≠ k' := fun e => by
  subst e
  have := h.symm.trans h'
  simp at this
  exact ht this.2
theorem ownsRow_chg {w w' : World} {B s n : Nat} {e : TypeId} {v : Value} {xs : List Value} {base g g1 c1 g2 c2 : Nat} {ev : Value} {D : Dk} (h : w.ownsRow B e s v n xs) (hD : DiskAt w base g g1 c1 g2 c2 ev D) (hc : Chg g g2 ev w w') (h45 : e ≠ 45) (h65 : e ≠ 65) (h5 : e ≠ 5) : w'.ownsRow B e s v n xs :=
  ownsRow_keep h fun k hk _ => by
    obtain ⟨_, _, cur, hr⟩ := ownsRow_lt h k hk
    exact (hr.chg hD hc h45 h65 (fun e => absurd e h5)).trans hr.symm
theorem Acts.range {w : World} {a : Option Addr} {b off len : Nat} {X : Nat → ActD} (h : Acts w a b off len X) (i : Nat) (hi : i < len) : w.rangeAt b (off + i * 6) (X i).cells.toList := fun j v hj => by
  have hj' : j < 6 := (List.getElem?_eq_some_iff.1 hj).1
  rw [h.cell i hi j hj', ← Array.getElem?_toList, hj]
theorem info34c (x : ActD) : (Try.prog.info? 34).map (·.size) = some x.cells.toList.length := by show _ = some 6; kernel_rfl
theorem info34a (x : ActD) : (Try.prog.info? 34).map (·.size) = some x.cells.size := by show _ = some 6; kernel_rfl
theorem info55 (B : Nat → Int) : (Try.prog.info? 55).map (·.size) = some (strRow B).size := by show _ = some 4; kernel_rfl
theorem ActD.cells_one (x : ActD) : x.cells.all (·.oneCell') = true := by
  unfold ActD.cells
  apply all_oneCell_toArray
  intro v hv
  simp only [List.mem_cons, List.not_mem_nil, or_false] at hv
  rcases hv with rfl | rfl | rfl | rfl | rfl | rfl <;> rfl
theorem strRow_one (B : Nat → Int) : (strRow B).all (·.oneCell') = true := by
  unfold strRow
  apply all_oneCell_toArray
  intro v hv
  simp only [List.mem_cons, List.not_mem_nil, or_false] at hv
  rcases hv with rfl | rfl | rfl | rfl <;> rfl
theorem Try.info4 : (Try.prog.info? 4).map (fun i => (i.zero, i.size, i.bytes)) = some (some (.bool false), 1, 1) := by kernel_rfl

theorem wpList_true {ops : Array Oper} {rest : List Oper} {o : Oper} {a : Act} {w : World} {Q : Exit → Act → World → Prop} (hgd : o.guard = none) (s x : Operand) (ho : o.op = .call { callee := .builtin .append, args := #[s, x], argTypes := #[32, 32] }) (base : Nat) (v : Value) (n : Nat)
    (W : World) (hw : w = W.alloc (.cells #[.bool true] 4)) (hs : a.eval s = v) (hown : Hid (W.ownsRow base 4 1 v n (List.replicate n (.bool true)))) (q : Nat) (hq : q = W.heap.size) (hx : a.eval x = .slice (some ⟨q, 0, none⟩) 1 1) (hn : n ≤ 1000) (hbase : base ≤ W.heap.size)
    (h : ∀ v' w', Hid (w'.ownsRow base 4 1 v' (n + 1) (List.replicate (n + 1) (.bool true))) → (W.alloc (.cells #[.bool true] 4)).grownBy w' v.ownBlock → wpList Try.prog ops Q rest (a.put o.dst v') w') : wpList Try.prog ops Q (o :: rest) a w := by
  subst hw
  subst hq
  obtain ⟨i0, hi, hz0, hz1, hz2⟩ := info_parts Try.info4
  have own' : (W.alloc (.cells #[.bool true] 4)).ownsRow base 4 1 v n (List.replicate n (.bool true)) := World.ownsRow.alloc (show W.ownsRow base 4 1 v n _ from hown) _
  refine wpList_append_own_wide _ hgd s x 32 ho base 4 i0 (.bool false) 1 1 Try.underlying32 hi hz0 hz1 hz2 rfl (by decide) v n _ hs own' _ 1 1 [.bool true] hx rfl (cell_one_new _ _ _) (fun u hu => by simp at hu; subst hu; rfl) (by unfold maxLen; omega) (by omega) (by simp; omega) (fun v' w' h1 h2 _ => h v' w' ?_ h2)
  rw [List.replicate_succ']
  exact h1

/-- What holds behind both power losses: the disk, and the two that go on by themselves. -/
structure Qs (w0 : World) (g g1 c1 g2 c2 nF nN : Nat) (ev : Value) (D : Dk) (Fl : Nat → Int) (wE : World) (gx gx1 cx1 gx2 cx2 gy gy1 cy1 gy2 cy2 By : Nat) (w : World) : Prop where
  ap : Ap w0 g g1 c1 g2 c2 nF nN ev D Fl w
  x : DiskAt w wE.heap.size gx gx1 cx1 gx2 cx2 (.slice none 0 0) (freshD 4 Fl)
  y : DiskAt w By gy gy1 cy1 gy2 cy2 (.slice none 0 0) (freshD 4 D.B)
  old : Below wE.heap.size wE w
theorem Qs.next {w0 : World} {g g1 c1 g2 c2 nF nN : Nat} {ev : Value} {D : Dk} {Fl : Nat → Int} {wE : World} {gx gx1 cx1 gx2 cx2 gy gy1 cy1 gy2 cy2 By : Nat} {w w' : World} (h : Qs w0 g g1 c1 g2 c2 nF nN ev D Fl wE gx gx1 cx1 gx2 cx2 gy gy1 cy1 gy2 cy2 By w) (hb : Below w.heap.size w w') :
    Qs w0 g g1 c1 g2 c2 nF nN ev D Fl wE gx gx1 cx1 gx2 cx2 gy gy1 cy1 gy2 cy2 By w' :=
  ⟨h.ap.next hb, h.x.below hb (Nat.le_refl _), h.y.below hb (Nat.le_refl _), h.old.trans (hb.mono h.old.size)⟩
/-- What holds while two sectors are compared. -/
structure Cmp (nF nN nq : Nat) (RF RN Ca Cb : Array Value) (w : World) : Prop where
  fl : Row w nF RF 55
  now : Row w nN RN 55
  ra : Row w nq Ca 5
  rb : Row w (nq + 1) Cb 5

/-- What holds in the last statement. -/
structure Fin3 (w0 : World) (g g1 c1 g2 c2 nN : Nat) (ev : Value) (D : Dk) (gx gx1 cx1 gx2 cx2 : Nat) (evx : Value) (wE : World) (Dx : Dk) (nq gs : Nat) (Ca Cb Cs : Array Value) (w : World) : Prop where
  now : Row w nN (strRow D.B) 55
  ra : Row w nq Ca 5
  rb : Row w (nq + 1) Cb 5
  rs : Row w gs Cs 5
  d : DiskAt w w0.heap.size g g1 c1 g2 c2 ev D
  x : DiskAt w wE.heap.size gx gx1 cx1 gx2 cx2 evx Dx
  old : Below w0.heap.size w0 w

/-- A sector of an act, filled up. -/
theorem sector_full (x : ActD) (w : World) (h : x.In w) :
    Calls Try.prog 10 #[.agg (x.cells.setIfInBounds 4 (.bool false))] w fun e w' => ∃ gs c cur, e = .returned (.slice (some ⟨gs, 0, none⟩) 256 c) ∧ w.heap.size ≤ gs ∧ Row w' gs cur 5 ∧ (∀ i, i < 256 → cur[i]? = some (.int .u8 (secOf x.len x.f x.fill i))) ∧ Below w.heap.size w w' := by
  have hs := sector_any x.kind x.n x.a x.b x.off x.len x.cap x.f x.fill false x.ka x.klen x.kcap w h.len h.bytes h.nil
  refine Calls.mono hs ?_
  rintro e w' ⟨g, c, rfl, _, _, h3, ⟨cur, h4⟩, h5, h6⟩
  exact ⟨g, c, cur, rfl, h3, h4, fun i hi => by rw [← h4.cell i]; exact h5 i (by simpa using hi), h6⟩
theorem sector_fill (fill : Int) (w : World) :
    Calls Try.prog 10 #[.agg #[.int .i64 0, .int .i64 0, .slice none 0 0, .int .u8 fill, .bool false, .slice none 0 0]] w fun e w' => ∃ gs c cur, e = .returned (.slice (some ⟨gs, 0, none⟩) 256 c) ∧ w.heap.size ≤ gs ∧ Row w' gs cur 5 ∧ (∀ i, i < 256 → cur[i]? = some (.int .u8 (secOf 0 (fun _ => 0) fill i))) ∧ Below w.heap.size w w' := by
  have hs := sector_any 0 0 none 0 0 0 0 (fun _ => 0) fill false none 0 0 w (by omega) ⟨fun h => absurd h (by omega), fun i hi => absurd hi (by omega), fun _ => ⟨Int.le_refl 0, (by decide : (0 : Int) < 256)⟩⟩ (fun _ => ⟨rfl, rfl⟩)
  refine Calls.mono hs ?_
  rintro e w' ⟨g, c, rfl, _, _, h3, ⟨cur, h4⟩, h5, h6⟩
  exact ⟨g, c, cur, rfl, h3, h4, fun i hi => by rw [← h4.cell i]; exact h5 i (by simpa using hi), h6⟩
theorem secOf_bd (len : Nat) (f : Nat → Int) (fill : Int) (hf : ∀ i, 0 ≤ f i ∧ f i < 256) (h : 0 ≤ fill ∧ fill < 256) : ∀ i, 0 ≤ secOf len f fill i ∧ secOf len f fill i < 256 := fun i => by
  unfold secOf
  split
  · exact hf i
  · exact h

set_option maxRecDepth 20000 in
set_option maxHeartbeats 8000000 in
theorem law_apart (a : Option Addr) (b off len cap : Nat) (X : Nat → ActD) (n fill : Int) (w : World) (hA : Acts w a b off len X) (hcap : len ≤ cap) (hcap2 : cap ≤ maxLen) (hfill : 0 ≤ fill ∧ fill < 256) :
    Calls Try.prog 6 #[.slice a len cap, .int .i64 n, .int .u8 fill] w fun e w' => e = .returned (.bool true) ∧ Below w.heap.size w w' := by
  have HN := new_ok 4 w (by decide) (by decide)
  have HA : Hid _ := hA
  have hmk := fun w => run_make_row' (P := Try.prog) 31 5 (.int .u8 0) 1 Try.underlying31 Try.info5 rfl .i64 .i64 256 (by omega) (by omega) w
  simp only [show ((256 : Nat) : Int) = 256 from rfl] at hmk
  have hZ := size_madeCells #[.int .u8 0] 256
  have hZb := made_byts 256
  generalize madeCells #[.int .u8 0] 256 = Z at *
  have HZb : Hid _ := hZb
  unfold maxLen at hcap2
  clear hA hZb
  go_enter Try.func6, Try.ntmps6
  go_wp2_with fail
  refine HN.mono ?_
  rintro e w1 ⟨g, g1, c1, g2, c2, rfl, hD, hb1⟩
  have HD : Hid _ := hD
  clear hD HN
  have hs1 := hb1.size
  go_upto_if 41 with fail
  go_cut [0] (fun s0 wx => ∃ m : Nat, m ≤ 100 ∧ s0 = .slice a m cap ∧ Hid (Acts w a b off m X) ∧ wx = w1)
  case first =>
    by_cases hl : 100 < len
    · obtain rfl := HA.out.at' (by omega)
      go_wp2
      go_meet
      exact ⟨100, by omega, rfl, ⟨fun _ => rfl, fun i hi => HA.out.cell i (by omega), fun i hi => HA.out.is i (by omega)⟩, rfl⟩
    · go_wp2
      go_meet
      exact ⟨len, by omega, rfl, HA.out, rfl⟩
  case rest =>
    obtain ⟨m, hm, rfl, HAm, hwc⟩ := hcut
    subst wc
    clear HA hcap
    obtain ⟨z, hz⟩ : ∃ z, z = sStr fun _ => 0 := ⟨_, rfl⟩
    have HZ : Hid _ := hz
    clear hz
    go_wp2
    go_loopw [11] (fun i wr => ∃ k : Nat, k ≤ 4 ∧ i = .int .i64 k ∧ Hid (Row wr w1.heap.size (part4 z k) 55) ∧ Hid (Row wr (w1.heap.size + 1) (part4 z k) 55) ∧ Below w1.heap.size w1 wr) (fun i _ => 4 - (intOf i).toNat)
    case atStart =>
      have r1 := Row.new w1 (part4 z 0) 55
      have r2 := Row.new (w1.alloc (.cells (part4 z 0) 55)) (part4 z 0) 55
      rw [World.size_alloc] at r2
      exact ⟨0, by omega, rfl, r1.alloc _, r2, ((Below.refl _ _).alloc (Nat.le_refl _) _).alloc (by simp) _⟩
    case round =>
      obtain ⟨k, hk, rfl, rF, rN, hb⟩ := hrel
      have hsz := hb.size
      by_cases hlt : k < 4
      · obtain ⟨s0, hs0⟩ := part4_cell z k hlt
        have rF1 : Row (wr.alloc (.cells Z 5)) w1.heap.size (part4 z k) 55 := Row.alloc rF.out _
        have rN1 : Row (wr.alloc (.cells Z 5)) (w1.heap.size + 1) (part4 z k) 55 := Row.alloc rN.out _
        have hcv := conv256 (wr.alloc (.cells Z 5)) wr.heap.size 0 256 (fun _ => 0) (fun i hi => by
          rw [Nat.zero_add, (Row.new wr Z 5).cell i, ← Array.getElem?_toList, show Z.toList = _ from HZb.out, byts_at _ _ _ hi])
        rw [← show z = _ from HZ.out] at hcv
        have cF := (rF1.cell k).trans hs0
        have fF := rF1.frozen k
        have rF2 : Row ((wr.alloc (.cells Z 5)).setCell ⟨w1.heap.size, k, none⟩ (.string z)) w1.heap.size (part4 z (k + 1)) 55 := by
          have h := rF1.setCell (i := k) (.string z)
          rw [part4_set z k hlt] at h
          exact h
        have rN2 : Row ((wr.alloc (.cells Z 5)).setCell ⟨w1.heap.size, k, none⟩ (.string z)) (w1.heap.size + 1) (part4 z k) 55 := rN1.setCell_other (by omega) _
        have cN := (rN2.cell k).trans hs0
        have fN := rN2.frozen k
        have cF2 : ((wr.alloc (.cells Z 5)).setCell ⟨w1.heap.size, k, none⟩ (.string z)).cell? ⟨w1.heap.size, k, none⟩ = some (.string z) := by
          rw [rF2.cell k, part4_new z k hlt]
        have rF3 : Row (((wr.alloc (.cells Z 5)).setCell ⟨w1.heap.size, k, none⟩ (.string z)).setCell ⟨w1.heap.size + 1, k, none⟩ (.string z)) w1.heap.size (part4 z (k + 1)) 55 := rF2.setCell_other (by omega) _
        have rN3 : Row (((wr.alloc (.cells Z 5)).setCell ⟨w1.heap.size, k, none⟩ (.string z)).setCell ⟨w1.heap.size + 1, k, none⟩ (.string z)) (w1.heap.size + 1) (part4 z (k + 1)) 55 := by
          have h := rN2.setCell (i := k) (.string z)
          rw [part4_set z k hlt] at h
          exact h
        have hb3 : Below w1.heap.size w1 (((wr.alloc (.cells Z 5)).setCell ⟨w1.heap.size, k, none⟩ (.string z)).setCell ⟨w1.heap.size + 1, k, none⟩ (.string z)) := ((hb.alloc hsz _).setCell (Nat.le_refl _) _).setCell (by simp) _
        have RF3 : Hid _ := rF3
        have RN3 : Hid _ := rN3
        clear rF1 rN1 rF2 rN2 rF3 rN3 rF rN hs0
        go_wp2
        go_roundw
        case rel => exact ⟨k + 1, by omega, by go_num, RF3, RN3, hb3⟩
        case measure => simp [intOf]; omega
      · have hk4 : k = 4 := by omega
        subst k
        have hz0 : ∀ k, S (fun _ => 0) k = z := fun k => by rw [show z = _ from HZ.out]; rfl
        have hpd := part4_done (fun _ => 0) z hz0
        have hAp : Ap w g g1 c1 g2 c2 w1.heap.size (w1.heap.size + 1) (.slice none 0 0) (freshD 4 fun _ => 0) (fun _ => 0) wr :=
          ⟨HD.out.below hb (Nat.le_refl _), by rw [← hpd]; exact rF, by show Row wr _ (strRow fun _ => 0) 55; rw [← hpd]; exact rN, ⟨rfl, rfl⟩, rfl, by omega, hs1, by omega, hb1.trans (hb.mono hs1)⟩
        have HAp : Hid _ := hAp
        clear hAp hpd hz0 rF rN HZ HZb hmk hZ hlt hk HD
        go_wp2
        go_loopw [12, 13] (fun kv iv wq => ∃ (j : Nat) (ev : Value) (D : Dk) (Fl : Nat → Int), j ≤ m ∧ iv = .int .i64 j ∧ Hid (D.E.length = j) ∧ Hid (Ap w g g1 c1 g2 c2 w1.heap.size (w1.heap.size + 1) ev D Fl wq) ∧ Hid (wq.ownsRow w.heap.size 4 1 kv j (List.replicate j (.bool true)))) (fun _ iv _ => m - (intOf iv).toNat)
        case atStart => exact ⟨0, .slice none 0 0, freshD 4 (fun _ => 0), fun _ => 0, Nat.zero_le _, rfl, (rfl : (0 : Nat) = 0), HAp, World.ownsRow_nil _ _ _ _⟩
        case round =>
          obtain ⟨j, ev, D, Fl, hj, rfl, hE, hP, hK⟩ := hrel
          clear HAp hb hsz
          by_cases hlt : j < m
          · obtain rfl := HAm.out.at' (by omega)
            have P0 : Ap w g g1 c1 g2 c2 w1.heap.size (w1.heap.size + 1) ev D Fl wr := hP
            have hsq := P0.old.size
            have hAq := HAm.out.belowAll P0.old
            have HRG : Hid _ := hAq.range j hlt
            have HIN : Hid _ := HAm.out.is j hlt
            have hA6 := info34c (X j)
            have hA6a := info34a (X j)
            have hAo := (X j).cells_one
            have hAs : (X j).cells.size = 6 := rfl
            have a0 : (X j).cells[0]? = some (.int .i64 (X j).kind) := rfl
            have hkd := HIN.out.kind
            have hRA : Row (wr.alloc (.cells (X j).cells 34)) wr.heap.size (X j).cells 34 := Row.new wr _ 34
            have hRA2 := hRA.alloc (.cells #[.bool true] 4)
            have hK1 : (wr.alloc (.cells (X j).cells 34)).ownsRow w.heap.size 4 1 u12 j (List.replicate j (.bool true)) := World.ownsRow.alloc (show wr.ownsRow w.heap.size 4 1 u12 j _ from hK) _
            have hK2 := hK1.alloc (.cells #[.bool true] 4)
            have hb2 : Below w.heap.size w ((wr.alloc (.cells (X j).cells 34)).alloc (.cells #[.bool true] 4)) := (P0.old.alloc hsq _).alloc (by simp; omega) _
            have P2 : Ap w g g1 c1 g2 c2 w1.heap.size (w1.heap.size + 1) ev D Fl ((wr.alloc (.cells (X j).cells 34)).alloc (.cells #[.bool true] 4)) := P0.next (((Below.refl _ _).alloc (Nat.le_refl _) _).alloc (by simp) _)
            have HP2 : Hid _ := P2
            have HK2 : Hid _ := hK2
            have HK1 : Hid _ := hK1
            have hj1000 : j ≤ 1000 := by omega
            have HQ1 : Hid (wr.heap.size + 1 = (wr.alloc (.cells (X j).cells 34)).heap.size) := by show _ = _; simp
            have hsq1 : w.heap.size ≤ (wr.alloc (.cells (X j).cells 34)).heap.size := by simp; omega
            generalize hAA : (X j).cells = A at *
            have HAA : Hid _ := hAA
            clear hAA hK1 hK2 P2 P0 hAq hP hK
            go_wp2_with (first
              | (refine wpList_load_mid rfl 34 _ rfl b (off + j * 6) rfl A.toList _ HRG.out Try.underlying34 rfl hA6 ?_; simp only [Array.toArray_toList])
              | refine wpList_store_new rfl 34 _ _ rfl wr _ A 34 rfl wr.heap.size rfl rfl rfl hA6a hAs.symm hAo ?_
              | (at_builtin; refine wpList_true rfl _ _ rfl w.heap.size u12 j _ rfl rfl HK1 (wr.heap.size + 1) HQ1.out rfl hj1000 hsq1 ?_))
            intro kv w3 HK3 growK
            have P3 : Ap w g g1 c1 g2 c2 w1.heap.size (w1.heap.size + 1) ev D Fl w3 := HP2.out.swap (fun k C t hr ht => row_grown HK2.out growK hr (by rcases ht with h | h | h | h <;> subst h <;> decide)) (own_grown HK2.out hb2 (by simp; omega) growK)
            have hR3 : Row w3 wr.heap.size A 34 := (row_grown HK2.out growK hRA2 (by decide)).trans hRA2
            have HP3 : Hid _ := P3
            have c0 := (hR3.cell 0).trans a0
            clear growK P3 HP2 HK2 HK1 hb2 hRA hRA2
            have hs3 := HP3.out.old.size
            by_cases hk1 : (X j).kind = 1
            · have HF := flush_ok HP3.out.disk hs3 (by rw [show D.E.length = j from hE]; omega)
              have HFF : Hid _ := HF
              clear HF
              go_wp2_with fail
              refine Calls.mono HFF.out ?_
              rintro e w4 ⟨rfl, ev', hD4, hc4⟩
              have rF4 : Row w4 w1.heap.size (strRow Fl) 55 := HP3.out.fl.chg HP3.out.disk hc4 (by decide) (by decide) (fun h => absurd h (by decide))
              have rN4 : Row w4 (w1.heap.size + 1) (strRow D.B) 55 := HP3.out.now.chg HP3.out.disk hc4 (by decide) (by decide) (fun h => absurd h (by decide))
              have hb4 : Below w.heap.size w w4 := HP3.out.old.trans (HP3.out.disk.chg hc4 hs3)
              have hK4 := ownsRow_chg (show w3.ownsRow w.heap.size 4 1 kv (j + 1) (List.replicate (j + 1) (.bool true)) from HK3) HP3.out.disk hc4 (by decide) (by decide) (by decide)
              have hK5 : (w4.setRow w1.heap.size (strRow D.B)).ownsRow w.heap.size 4 1 kv (j + 1) (List.replicate (j + 1) (.bool true)) := ownsRow_keep hK4 fun k hk _ => by
                obtain ⟨_, _, cur, hr⟩ := ownsRow_lt hK4 k hk
                exact setRow_other _ _ _ _ (row_ne hr rF4 (by decide))
              have P5 : Ap w g g1 c1 g2 c2 w1.heap.size (w1.heap.size + 1) ev' D.flush D.B (w4.setRow w1.heap.size (strRow D.B)) :=
                ⟨hD4.keepT fun k C t hr ht => setRow_other _ _ _ _ (row_ne hr rF4 (by rcases ht with h | h | h <;> subst h <;> decide)), rF4.setRow, rN4.other (by omega), HP3.out.hist.flush, HP3.out.s4, by omega, HP3.out.geF, HP3.out.geN, below_setRow hb4 HP3.out.geF _⟩
              have HP5 : Hid _ := P5
              have HK5 : Hid _ := hK5
              have hE5 : Hid (D.flush.E.length = j + 1) := by show (D.E ++ [flushEv]).length = j + 1; rw [List.length_append, show D.E.length = j from hE]; rfl
              have i55 := info55 D.B
              have hsz55 : (strRow Fl).size = (strRow D.B).size := rfl
              have h1B := strRow_one D.B
              have RN4 : Hid _ := rN4
              have RF4 : Hid _ := rF4
              clear P5 hK5 hK4 hD4 hc4 hb4 rF4 rN4 HP3 HK3 HFF hR3
              generalize strRow D.B = RB at *
              generalize strRow Fl = RF at *
              go_wp2_with (first
                | refine wpList_load_row rfl 55 _ rfl (w1.heap.size + 1) rfl 55 RB (0, 0) _ RN4.out Try.underlying55 rfl i55 ?_
                | refine wpList_store_row rfl 55 _ _ rfl w1.heap.size RB rfl rfl 55 RF RF4.out i55 hsz55 h1B ?_)
              go_roundw
              case rel => exact ⟨j + 1, ev', _, _, by omega, by go_num, hE5, HP5, HK5⟩
              case measure => simp [intOf]; omega
            · have a1 : A[1]? = some (.int .i64 (X j).n) := by rw [← show (X j).cells = A from HAA.out]; rfl
              have a4 : A[4]? = some (.bool (X j).odd) := by rw [← show (X j).cells = A from HAA.out]; rfl
              have c4 := (hR3.cell 4).trans a4
              have f4 := hR3.frozen 4
              have hbx : w.heap.size ≤ wr.heap.size := hsq
              have hR4 : Row (w3.setCell ⟨wr.heap.size, 4, none⟩ (.bool false)) wr.heap.size (A.setIfInBounds 4 (.bool false)) 34 := hR3.setCell (i := 4) _
              have P4 : Ap w g g1 c1 g2 c2 w1.heap.size (w1.heap.size + 1) ev D Fl (w3.setCell ⟨wr.heap.size, 4, none⟩ (.bool false)) := HP3.out.swap (fun k C t hr ht => Below.heap_setCell _ _ _ _ (row_ne hr hR3 (by rcases ht with h | h | h | h <;> subst h <;> decide))) (HP3.out.old.setCell hbx _)
              have hK4 : (w3.setCell ⟨wr.heap.size, 4, none⟩ (.bool false)).ownsRow w.heap.size 4 1 kv (j + 1) (List.replicate (j + 1) (.bool true)) := ownsRow_keep (show w3.ownsRow w.heap.size 4 1 kv (j + 1) (List.replicate (j + 1) (.bool true)) from HK3) fun k hk _ => by
                obtain ⟨_, _, cur, hr⟩ := ownsRow_lt (show w3.ownsRow w.heap.size 4 1 kv (j + 1) (List.replicate (j + 1) (.bool true)) from HK3) k hk
                exact Below.heap_setCell _ _ _ _ (row_ne hr hR3 (by decide))
              have HSC := sector_full (X j) _ (HIN.out.below P4.old)
              rw [show (X j).cells = A from HAA.out] at HSC
              have HHS : Hid _ := HSC
              have HP4 : Hid _ := P4
              have HK4 : Hid _ := hK4
              have hA4 : (Try.prog.info? 34).map (·.size) = some (A.setIfInBounds 4 (.bool false)).size := by rw [Array.size_setIfInBounds]; exact hA6a
              have a1' : (A.setIfInBounds 4 (.bool false))[1]? = some (.int .i64 (X j).n) := by rw [← a1]; simp
              have HR4 : Hid _ := hR4
              clear HSC P4 hK4 hR4 HP3 HK3 hR3
              generalize A.setIfInBounds 4 (.bool false) = A' at *
              go_wp2_with (first
                | refine wpList_load_row rfl 34 _ rfl wr.heap.size rfl 34 A' (0, 0) _ HR4.out Try.underlying34 rfl hA4 ?_)
              generalize w3.setCell ⟨wr.heap.size, 4, none⟩ (.bool false) = w4 at *
              clear c4 f4 c0
              refine Calls.mono HHS.out ?_
              rintro e w5 ⟨gs, cs, cur, rfl, hgs, hcur, hcc, hb5⟩
              obtain ⟨kk, hkk, hk4⟩ := and3 (X j).n
              have P5 := HP4.out.next hb5
              have hs5 := P5.old.size
              have hR5 := Row.below HR4.out hb5 (Row.lt HR4.out)
              have hK5 := ownsRow_below (show w4.ownsRow w.heap.size 4 1 kv (j + 1) (List.replicate (j + 1) (.bool true)) from HK4) hb5
              have hfb := secOf_bd (X j).len (X j).f (X j).fill HIN.out.bytes.bd HIN.out.fill
              have hg2 : gs ≠ g2 := by have := HP4.out.disk.lt2; omega
              have HW := write_ok P5.disk hs5 (by rw [show D.E.length = j from hE]; omega) kk (by rw [P5.s4]; exact hk4) gs 0 cs _ cur hcur hg2 (fun i hi => by rw [Nat.zero_add]; exact hcc i hi) hfb
              have cn1 := (hR5.cell 1).trans a1'
              have HHW : Hid _ := HW
              have HP5 : Hid _ := P5
              have HK5 : Hid _ := hK5
              have HR5 : Hid _ := hR5
              have HCC : Hid _ := hcc
              have HCU : Hid _ := hcur
              have HFB : Hid _ := hfb
              clear HW P5 hK5 hR5 hcc hcur hfb HHS HP4 HK4 HR4
              go_wp2_with fail
              refine Calls.mono HHW.out ?_
              rintro e w6 ⟨rfl, ev', hD6, hc6⟩
              have hD5 := HP5.out.disk
              have rF6 : Row w6 w1.heap.size (strRow Fl) 55 := HP5.out.fl.chg hD5 hc6 (by decide) (by decide) (fun h => absurd h (by decide))
              have rN6 : Row w6 (w1.heap.size + 1) (strRow D.B) 55 := HP5.out.now.chg hD5 hc6 (by decide) (by decide) (fun h => absurd h (by decide))
              have hR6 : Row w6 wr.heap.size A' 34 := Row.chg HR5.out hD5 hc6 (by decide) (by decide) (fun h => absurd h (by decide))
              have hcu6 : Row w6 gs cur 5 := Row.chg HCU.out hD5 hc6 (by decide) (by decide) (fun _ => hg2)
              have hb6 : Below w.heap.size w w6 := HP5.out.old.trans (hD5.chg hc6 hs5)
              have hK6 := ownsRow_chg (show w5.ownsRow w.heap.size 4 1 kv (j + 1) (List.replicate (j + 1) (.bool true)) from HK5) hD5 hc6 (by decide) (by decide) (by decide)
              have hcv := conv256 w6 gs 0 cs (secOf (X j).len (X j).f (X j).fill) (fun i hi => by rw [Nat.zero_add, hcu6.cell i]; exact HCC.out i hi)
              have cN := (rN6.cell kk).trans (strRow_at D.B kk hk4)
              have fN := rN6.frozen kk
              have cn2 := (hR6.cell 1).trans a1'
              have rN7 := rN6.setCell (i := kk) (.string (sStr (secOf (X j).len (X j).f (X j).fill)))
              rw [strRow_over D.B kk _ hk4] at rN7
              have P7 : Ap w g g1 c1 g2 c2 w1.heap.size (w1.heap.size + 1) ev' (D.write kk (secOf (X j).len (X j).f (X j).fill)) Fl (w6.setCell ⟨w1.heap.size + 1, kk, none⟩ (.string (sStr (secOf (X j).len (X j).f (X j).fill)))) :=
                ⟨hD6.keepT fun k C t hr ht => Below.heap_setCell _ _ _ _ (row_ne hr rN6 (by rcases ht with h | h | h <;> subst h <;> decide)), rF6.setCell_other (by omega) _, rN7, HP5.out.hist.write kk _, HP5.out.s4, by omega, HP5.out.geF, HP5.out.geN, hb6.setCell HP5.out.geN _⟩
              have hK7 : (w6.setCell ⟨w1.heap.size + 1, kk, none⟩ (.string (sStr (secOf (X j).len (X j).f (X j).fill)))).ownsRow w.heap.size 4 1 kv (j + 1) (List.replicate (j + 1) (.bool true)) := ownsRow_keep hK6 fun k hk _ => by
                obtain ⟨_, _, cur, hr⟩ := ownsRow_lt hK6 k hk
                exact Below.heap_setCell _ _ _ _ (row_ne hr rN6 (by decide))
              have HP7 : Hid _ := P7
              have HK7 : Hid _ := hK7
              have hE7 : Hid ((D.write kk (secOf (X j).len (X j).f (X j).fill)).E.length = j + 1) := by show (D.E ++ [_]).length = j + 1; rw [List.length_append, show D.E.length = j from hE]; rfl
              clear P7 hK7 hK6 rN7 rN6 rF6 hR6 hcu6 hD6 hc6 hb6 hD5 HHW HP5 HK5 HR5 HCC HCU HFB
              go_wp2
              go_roundw
              case rel => exact ⟨j + 1, ev', _, _, by omega, by go_num, hE7, HP7, HK7⟩
              case measure => simp [intOf]; omega
          · have hjm : m = j := by omega
            subst hjm
            obtain ⟨wE, rfl⟩ : ∃ x, x = wr := ⟨wr, rfl⟩
            have P0 : Ap w g g1 c1 g2 c2 w1.heap.size (w1.heap.size + 1) ev D Fl wE := hP
            have hEm : D.E.length = m := hE
            have hsE := P0.old.size
            have HE1 := events_yes P0.disk
            rw [hEm] at HE1
            have HA1 := after_ok P0.disk m (by omega) (by omega) none 0 0 0 0 (fun _ => false) ⟨fun h => absurd h (by omega), fun i hi => absurd hi (by omega)⟩ (by omega)
            have hX0 : D.after m 0 (fun _ => false) = freshD 4 Fl := by
              unfold Dk.after
              rw [P0.s4, after_none, show min m (safeN D.ev m) = safeN D.ev m by have := safeN_le D.ev m; omega, ← hEm, ← P0.hist.fl]
            rw [hX0] at HA1
            have HHE : Hid _ := HE1
            have HHA : Hid _ := HA1
            have HP0 : Hid _ := P0
            have HK0 : Hid _ := hK
            clear HE1 HA1 P0 hP hK hX0 hlt
            go_wp2_with fail
            refine Calls.mono HHE.out ?_
            rintro e w' ⟨rfl, hw'⟩
            subst w'
            go_wp2_with fail
            refine Calls.mono HHA.out ?_
            rintro e w2 ⟨gx, gx1, cx1, gx2, cx2, rfl, hX2, hb2⟩
            have P2 := HP0.out.next hb2
            have HE2 := events_yes P2.disk
            rw [hEm] at HE2
            have hs2 := hb2.size
            have hK2 := ownsRow_below (show wE.ownsRow w.heap.size 4 1 u12 m (List.replicate m (.bool true)) from HK0) hb2
            obtain ⟨ka, kb, kc, hkv, hBl⟩ : ∃ ka kb kc, u12 = .slice ka m kc ∧ Bl w2 ka kb 0 m (fun _ => true) := by
              have hK3 := hK2
              obtain ⟨_, ⟨h1, h2⟩ | ⟨b', c', cur', h1, _⟩⟩ := hK3
              · exact ⟨none, 0, 0, by rw [h1, h2], ⟨fun h => absurd h (by omega), fun i hi => absurd hi (by omega)⟩⟩
              · subst h1
                exact ⟨_, b', c', rfl, ⟨fun _ => rfl, fun i hi => by rw [Nat.zero_add, hK2.cellAt i (by omega)]; simp [hi]⟩⟩
            have HA2 := after_ok P2.disk m (by omega) (by omega) ka kb 0 m kc (fun _ => true) hBl (by omega)
            have hY0 : D.after m m (fun _ => true) = freshD 4 D.B := by
              unfold Dk.after
              rw [P2.s4, after_every _ _ _ _ _ _ (Nat.le_refl _) (fun _ _ => rfl), ← hEm, ← P2.hist.now]
            rw [hY0] at HA2
            subst hkv
            have HHE2 : Hid _ := HE2
            have HHA2 : Hid _ := HA2
            have HP2 : Hid _ := P2
            have HX2 : Hid _ := hX2
            clear HE2 HA2 P2 hX2 hK2 hBl hY0 HHE HHA HK0
            go_wp2_with fail
            refine Calls.mono HHE2.out ?_
            rintro e w' ⟨rfl, hw'⟩
            subst w'
            go_wp2_with fail
            refine Calls.mono HHA2.out ?_
            rintro e w3 ⟨gy, gy1, cy1, gy2, cy2, rfl, hY3, hb3⟩
            have P3 := HP2.out.next hb3
            have hX3 := HX2.out.below hb3 (Nat.le_refl _)
            have hb3' : Below wE.heap.size wE w3 := hb2.trans (hb3.mono hs2)
            have HQ : Hid (Qs w g g1 c1 g2 c2 w1.heap.size (w1.heap.size + 1) ev D Fl wE gx gx1 cx1 gx2 cx2 gy gy1 cy1 gy2 cy2 w2.heap.size w3) := ⟨P3, hX3, hY3, hb3'⟩
            clear P3 hX3 hY3 hb3' hb3 hb2 HP2 HX2 HHE2 HHA2 hs2
            go_wp2
            go_loopw [19] (fun iv wq => ∃ k : Nat, k ≤ 4 ∧ iv = .int .i64 k ∧ Hid (Qs w g g1 c1 g2 c2 w1.heap.size (w1.heap.size + 1) ev D Fl wE gx gx1 cx1 gx2 cx2 gy gy1 cy1 gy2 cy2 w2.heap.size wq)) (fun iv _ => 4 - (intOf iv).toNat)
            case atStart => exact ⟨0, by omega, rfl, HQ⟩
            case round =>
              obtain ⟨kq, hkq, rfl, hQq⟩ := hrel
              clear HQ
              by_cases hlt : kq < 4
              · have Q0 : Qs w g g1 c1 g2 c2 w1.heap.size (w1.heap.size + 1) ev D Fl wE gx gx1 cx1 gx2 cx2 gy gy1 cy1 gy2 cy2 w2.heap.size wr := hQq
                have HR1 := read_ok Q0.x kq hlt
                have Q1 := Q0.next ((Below.refl wr.heap.size wr).alloc (Nat.le_refl _) (.cells (byts (fun i => (freshD 4 Fl).B (kq * 256 + i)) 256).toArray 5))
                have HR2 := read_ok Q1.y kq hlt
                rw [World.size_alloc] at HR2
                have Q2 := Q1.next ((Below.refl _ _).alloc (Nat.le_refl _) (.cells (byts (fun i => (freshD 4 D.B).B (kq * 256 + i)) 256).toArray 5))
                have hCa : ∀ i, i < 256 → (byts (fun i => (freshD 4 Fl).B (kq * 256 + i)) 256).toArray[i]? = some (.int .u8 (Fl (kq * 256 + i))) := fun i hi => by
                  simpa [freshD] using byts_at (fun i => Fl (kq * 256 + i)) 256 i hi
                have hCb : ∀ i, i < 256 → (byts (fun i => (freshD 4 D.B).B (kq * 256 + i)) 256).toArray[i]? = some (.int .u8 (D.B (kq * 256 + i))) := fun i hi => by
                  simpa [freshD] using byts_at (fun i => D.B (kq * 256 + i)) 256 i hi
                generalize (byts (fun i => (freshD 4 Fl).B (kq * 256 + i)) 256).toArray = Ca at *
                generalize (byts (fun i => (freshD 4 D.B).B (kq * 256 + i)) 256).toArray = Cb at *
                have rb := Row.new (wr.alloc (.cells Ca 5)) Cb 5
                rw [World.size_alloc] at rb
                have hcm : Cmp w1.heap.size (w1.heap.size + 1) wr.heap.size (strRow Fl) (strRow D.B) Ca Cb ((wr.alloc (.cells Ca 5)).alloc (.cells Cb 5)) := ⟨Q2.ap.fl, Q2.ap.now, (Row.new wr Ca 5).alloc _, rb⟩
                have hFk := strRow_at Fl kq hlt
                have hNk := strRow_at D.B kq hlt
                have HR1' : Hid _ := HR1
                have HR2' : Hid _ := HR2
                have HQ2 : Hid _ := Q2
                have HCM : Hid _ := hcm
                clear HR1 HR2 Q0 Q1 Q2 hcm rb hQq
                go_wp2_with fail
                refine Calls.mono HR1'.out ?_
                rintro e w' ⟨rfl, hw'⟩
                subst w'
                go_wp2_with fail
                refine Calls.mono HR2'.out ?_
                rintro e w' ⟨rfl, hw'⟩
                subst w'
                go_wp2_with fail
                refine wp_region_mix [false, false, false, false, false, false, false, false, false, false, false, false, false, false] (Cmp w1.heap.size (w1.heap.size + 1) wr.heap.size (strRow Fl) (strRow D.B) Ca Cb) (by kernel_rfl) (by kernel_rfl) ⟨HCM.out.fl, HCM.out.now, HCM.out.ra, HCM.out.rb⟩ ?_
                refine m_move _ rfl (by rfl) ?_
                simp only [Act.put, List.setIfInBounds_toArray, List.set_cons_zero, List.set_cons_succ]
                refine m_value ?_ (by rfl) (fun w hw => ?_) ?_
                rotate_left
                · have hcv : (convert 31 9 (.slice (some ⟨wr.heap.size, 0, none⟩) 256 256)).run Try.prog w = .ok (.string (S Fl kq)) w := conv256 w wr.heap.size 0 256 _ (fun i hi => by rw [Nat.zero_add, hw.ra.cell i]; exact hCa i hi)
                  go_simp
                  with_reducible rfl
                simp only [Act.put, List.setIfInBounds_toArray, List.set_cons_zero, List.set_cons_succ]
                refine m_move _ rfl (by rfl) ?_
                simp only [Act.put, List.setIfInBounds_toArray, List.set_cons_zero, List.set_cons_succ]
                refine m_value ?_ (by rfl) (fun w hw => ?_) ?_
                rotate_left
                · go_simp
                  with_reducible rfl
                simp only [Act.put, List.setIfInBounds_toArray, List.set_cons_zero, List.set_cons_succ]
                refine m_value ?_ (by rfl) (fun w hw => ?_) ?_
                rotate_left
                · have hcl := (hw.fl.cell kq).trans hFk
                  go_simp
                  with_reducible rfl
                simp only [Act.put, List.setIfInBounds_toArray, List.set_cons_zero, List.set_cons_succ]
                refine m_value ?_ (by rfl) (fun w hw => ?_) ?_
                rotate_left
                · go_simp
                  with_reducible rfl
                simp only [Act.put, List.setIfInBounds_toArray, List.set_cons_zero, List.set_cons_succ]
                refine m_move _ rfl (by rfl) ?_
                simp only [Act.put, List.setIfInBounds_toArray, List.set_cons_zero, List.set_cons_succ]
                refine m_move _ rfl (by rfl) ?_
                simp only [Act.put, List.setIfInBounds_toArray, List.set_cons_zero, List.set_cons_succ]
                refine m_value ?_ (by rfl) (fun w hw => ?_) ?_
                rotate_left
                · have hcv : (convert 31 9 (.slice (some ⟨wr.heap.size + 1, 0, none⟩) 256 256)).run Try.prog w = .ok (.string (S D.B kq)) w := conv256 w (wr.heap.size + 1) 0 256 _ (fun i hi => by rw [Nat.zero_add, hw.rb.cell i]; exact hCb i hi)
                  go_simp
                  with_reducible rfl
                simp only [Act.put, List.setIfInBounds_toArray, List.set_cons_zero, List.set_cons_succ]
                refine m_move _ rfl (by rfl) ?_
                simp only [Act.put, List.setIfInBounds_toArray, List.set_cons_zero, List.set_cons_succ]
                refine m_value ?_ (by rfl) (fun w hw => ?_) ?_
                rotate_left
                · go_simp
                  with_reducible rfl
                simp only [Act.put, List.setIfInBounds_toArray, List.set_cons_zero, List.set_cons_succ]
                refine m_value ?_ (by rfl) (fun w hw => ?_) ?_
                rotate_left
                · have hcl := (hw.now.cell kq).trans hNk
                  go_simp
                  with_reducible rfl
                simp only [Act.put, List.setIfInBounds_toArray, List.set_cons_zero, List.set_cons_succ]
                refine m_value ?_ (by rfl) (fun w hw => ?_) ?_
                rotate_left
                · go_simp
                  with_reducible rfl
                simp only [Act.put, List.setIfInBounds_toArray, List.set_cons_zero, List.set_cons_succ]
                refine m_value ?_ (by rfl) (fun w hw => ?_) ?_
                rotate_left
                · go_simp
                  with_reducible rfl
                simp only [Act.put, List.setIfInBounds_toArray, List.set_cons_zero, List.set_cons_succ]
                refine m_done ?_
                simp only [Exit.then]
                have HQ3 : Hid (Qs w g g1 c1 g2 c2 w1.heap.size (w1.heap.size + 1) ev D Fl wE gx gx1 cx1 gx2 cx2 gy gy1 cy1 gy2 cy2 w2.heap.size ((wr.alloc (.cells Ca 5)).alloc (.cells Cb 5)).drew) := HQ2.out.next (Below.refl _ _).drew
                go_wp2
                go_roundw
                case rel => exact ⟨kq + 1, by omega, by go_num, HQ3⟩
                case measure => simp [intOf]; omega
              · have hk4 : 4 = kq := by omega
                subst hk4
                have Q0 : Qs w g g1 c1 g2 c2 w1.heap.size (w1.heap.size + 1) ev D Fl wE gx gx1 cx1 gx2 cx2 gy gy1 cy1 gy2 cy2 w2.heap.size wr := hQq
                have HSC := sector_fill fill wr
                have HHS : Hid _ := HSC
                have HQ0 : Hid _ := Q0
                clear HSC Q0 hQq hlt hkq
                go_wp2_with fail
                refine Calls.mono HHS.out ?_
                rintro e w5 ⟨gs, cs, cur, rfl, hgs, hcur, hcc, hb5⟩
                have hcc' := hcc
                obtain ⟨kk, hkk, hk4⟩ := and3 n
                have hk4i : (kk : Int) < 4 := by omega
                have Q5 := HQ0.out.next hb5
                have hs5 := Q5.old.size
                have hfb := secOf_bd 0 (fun _ => 0) fill (fun _ => ⟨Int.le_refl 0, (by decide : (0 : Int) < 256)⟩) hfill
                generalize secOf 0 (fun _ => 0) fill = f at *
                have hg2 : gs ≠ gx2 := by have := HQ0.out.x.lt2; omega
                have HW := write_ok Q5.x hs5 (by simp [freshD]) kk hk4 gs 0 cs f cur hcur hg2 (fun i hi => by rw [Nat.zero_add]; exact hcc' i hi) hfb
                have HHW : Hid _ := HW
                have HQ5 : Hid _ := Q5
                have HCC : Hid _ := hcc'
                have HCU : Hid _ := hcur
                clear HW Q5 hcc hcc' hcur hfb HHS HQ0
                go_wp2_with fail
                refine Calls.mono HHW.out ?_
                rintro e w6 ⟨rfl, evx, hX6, hc6⟩
                have hX5 := HQ5.out.x
                have hbx : Below wE.heap.size w5 w6 := hX5.chg hc6 hs5
                have hD6 : DiskAt w6 w.heap.size g g1 c1 g2 c2 ev D := HQ5.out.ap.disk.keep fun k hk => hbx.block k (by
                  have hd := HP0.out.disk
                  rcases hk with rfl | rfl | rfl | hk
                  · exact hd.row.lt
                  · exact hd.lt1
                  · exact hd.lt2
                  · exact (ownsRow_lt hd.evs k hk).1)
                have rN6 : Row w6 (w1.heap.size + 1) (strRow D.B) 55 := HQ5.out.ap.now.chg hX5 hc6 (by decide) (by decide) (fun h => absurd h (by decide))
                have hcu6 : Row w6 gs cur 5 := Row.chg HCU.out hX5 hc6 (by decide) (by decide) (fun _ => hg2)
                have hbW : Below w.heap.size w w6 := HQ5.out.ap.old.trans (hbx.mono hsE)
                have HR1 := read_ok hD6 kk (by rw [HQ5.out.ap.s4]; exact hk4)
                have hX7 := hX6.below ((Below.refl w6.heap.size w6).alloc (Nat.le_refl _) (.cells (byts (fun i => D.B (kk * 256 + i)) 256).toArray 5)) (Nat.le_refl _)
                have HR2 := read_ok hX7 kk hk4
                rw [World.size_alloc] at HR2
                have hCa : ∀ i, i < 256 → (byts (fun i => D.B (kk * 256 + i)) 256).toArray[i]? = some (.int .u8 (D.B (kk * 256 + i))) := fun i hi => by
                  simpa using byts_at (fun i => D.B (kk * 256 + i)) 256 i hi
                have hCb : ∀ i, i < 256 → (byts (fun i => ((freshD 4 Fl).write kk f).B (kk * 256 + i)) 256).toArray[i]? = some (.int .u8 (((freshD 4 Fl).write kk f).B (kk * 256 + i))) := fun i hi => by
                  simpa using byts_at (fun i => ((freshD 4 Fl).write kk f).B (kk * 256 + i)) 256 i hi
                have hSx0 : (sStr fun i => ((freshD 4 Fl).write kk f).B (kk * 256 + i)) = sStr f := (S_over Fl kk kk f).trans (if_pos rfl)
                obtain ⟨SF, hSF0⟩ : ∃ SF, sStr f = SF := ⟨_, rfl⟩
                rw [hSF0] at hSx0
                have hSx : Hid _ := hSx0
                have hSF : Hid _ := hSF0
                generalize (byts (fun i => D.B (kk * 256 + i)) 256).toArray = Ca at *
                generalize (byts (fun i => ((freshD 4 Fl).write kk f).B (kk * 256 + i)) 256).toArray = Cb at *
                have rb := Row.new (w6.alloc (.cells Ca 5)) Cb 5
                rw [World.size_alloc] at rb
                have hb8 : Below w6.heap.size w6 ((w6.alloc (.cells Ca 5)).alloc (.cells Cb 5)) := ((Below.refl _ _).alloc (Nat.le_refl _) _).alloc (by simp) _
                have hFin : Fin3 w g g1 c1 g2 c2 (w1.heap.size + 1) ev D gx gx1 cx1 gx2 cx2 evx wE ((freshD 4 Fl).write kk f) w6.heap.size gs Ca Cb cur ((w6.alloc (.cells Ca 5)).alloc (.cells Cb 5)).drew :=
                  ⟨rN6.below hb8.drew rN6.lt, (Row.new w6 Ca 5).alloc _, rb, hcu6.below hb8.drew hcu6.lt, hD6.below hb8.drew (Nat.le_refl _), hX6.below hb8.drew (Nat.le_refl _), (hbW.trans (hb8.mono hbW.size)).drew⟩
                have hNk := strRow_at D.B kk hk4
                have HR1' : Hid _ := HR1
                have HR2' : Hid _ := HR2
                clear HR1 HR2 hX6 hX7 hD6 rN6 hcu6 rb hb8 hc6 hX5 hbx hSx0 hSF0 HHW HQ5 HCU hbW
                go_wp2_with fail
                refine Calls.mono HR1'.out ?_
                rintro e w' ⟨rfl, hw'⟩
                subst w'
                go_wp2_with fail
                refine Calls.mono HR2'.out ?_
                rintro e w' ⟨rfl, hw'⟩
                subst w'
                go_wp2_with fail
                clear HR1' HR2'
                have HFin : Hid _ := hFin
                have HEX : Calls Try.prog 20 #[.pointer (some ⟨gx, 0, none⟩)] ((w6.alloc (.cells Ca 5)).alloc (.cells Cb 5)).drew fun e w' => e = .returned (.int .i64 1) ∧ w' = ((w6.alloc (.cells Ca 5)).alloc (.cells Cb 5)).drew := events_yes hFin.x
                have HED := events_yes hFin.d
                rw [hEm] at HED
                refine wp_region_permA [(false, 0), (false, 1), (false, 2), (false, 3), (false, 4), (false, 5), (false, 6), (false, 7), (false, 8), (false, 9), (false, 10), (false, 11), (false, 12), (false, 13), (false, 14), (false, 15), (true, 16), (false, 17), (false, 18), (false, 19), (false, 20), (false, 22), (false, 23), (true, 21), (false, 24), (false, 25), (false, 26)] (Fin3 w g g1 c1 g2 c2 (w1.heap.size + 1) ev D gx gx1 cx1 gx2 cx2 evx wE ((freshD 4 Fl).write kk f) w6.heap.size gs Ca Cb cur) (by kernel_rfl) (by kernel_rfl) HFin.out ?_
                refine a_move (some 173) _ rfl rfl rfl (by rfl) ?_
                simp only [Act.put, List.setIfInBounds_toArray, List.set_cons_zero, List.set_cons_succ]
                refine a_value (some 174) ?_ rfl rfl (by rfl) (fun w hw => ?_) ?_
                rotate_left
                · have hcv : (convert 31 9 (.slice (some ⟨w6.heap.size, 0, none⟩) 256 256)).run Try.prog w = .ok (.string (S D.B kk)) w := conv256 w w6.heap.size 0 256 _ (fun i hi => by rw [Nat.zero_add, hw.ra.cell i]; exact hCa i hi)
                  go_simp
                  with_reducible rfl
                simp only [Act.put, List.setIfInBounds_toArray, List.set_cons_zero, List.set_cons_succ]
                refine a_move (some 175) _ rfl rfl rfl (by rfl) ?_
                simp only [Act.put, List.setIfInBounds_toArray, List.set_cons_zero, List.set_cons_succ]
                refine a_value (some 176) ?_ rfl rfl (by rfl) (fun w hw => ?_) ?_
                rotate_left
                · go_simp
                  with_reducible rfl
                simp only [Act.put, List.setIfInBounds_toArray, List.set_cons_zero, List.set_cons_succ]
                refine a_value (some 177) ?_ rfl rfl (by rfl) (fun w hw => ?_) ?_
                rotate_left
                · go_simp
                  with_reducible rfl
                simp only [Act.put, List.setIfInBounds_toArray, List.set_cons_zero, List.set_cons_succ]
                refine a_value (some 178) ?_ rfl rfl (by rfl) (fun w hw => ?_) ?_
                rotate_left
                · have hcl := (hw.now.cell kk).trans hNk
                  go_simp
                  with_reducible rfl
                simp only [Act.put, List.setIfInBounds_toArray, List.set_cons_zero, List.set_cons_succ]
                refine a_value (some 179) ?_ rfl rfl (by rfl) (fun w hw => ?_) ?_
                rotate_left
                · go_simp
                  with_reducible rfl
                simp only [Act.put, List.setIfInBounds_toArray, List.set_cons_zero, List.set_cons_succ]
                refine a_move (some 180) _ rfl rfl rfl (by rfl) ?_
                simp only [Act.put, List.setIfInBounds_toArray, List.set_cons_zero, List.set_cons_succ]
                refine a_move (some 181) _ rfl rfl rfl (by rfl) ?_
                simp only [Act.put, List.setIfInBounds_toArray, List.set_cons_zero, List.set_cons_succ]
                refine a_value (some 182) ?_ rfl rfl (by rfl) (fun w hw => ?_) ?_
                rotate_left
                · have hcv : (convert 31 9 (.slice (some ⟨w6.heap.size + 1, 0, none⟩) 256 256)).run Try.prog w = .ok (.string SF) w := by rw [← hSx.out]; exact conv256 w (w6.heap.size + 1) 0 256 _ (fun i hi => by rw [Nat.zero_add, hw.rb.cell i]; exact hCb i hi)
                  go_simp
                  with_reducible rfl
                simp only [Act.put, List.setIfInBounds_toArray, List.set_cons_zero, List.set_cons_succ]
                refine a_move (some 183) _ rfl rfl rfl (by rfl) ?_
                simp only [Act.put, List.setIfInBounds_toArray, List.set_cons_zero, List.set_cons_succ]
                refine a_value (some 184) ?_ rfl rfl (by rfl) (fun w hw => ?_) ?_
                rotate_left
                · have hcv : (convert 31 9 (.slice (some ⟨gs, 0, none⟩) 256 cs)).run Try.prog w = .ok (.string SF) w := by rw [← hSF.out]; exact conv256 w gs 0 cs _ (fun i hi => by rw [Nat.zero_add, hw.rs.cell i]; exact HCC.out i hi)
                  go_simp
                  with_reducible rfl
                simp only [Act.put, List.setIfInBounds_toArray, List.set_cons_zero, List.set_cons_succ]
                refine a_value (some 185) ?_ rfl rfl (by rfl) (fun w hw => ?_) ?_
                rotate_left
                · go_simp
                  with_reducible rfl
                simp only [Act.put, List.setIfInBounds_toArray, List.set_cons_zero, List.set_cons_succ]
                refine a_value (some 186) ?_ rfl rfl (by rfl) (fun w hw => ?_) ?_
                rotate_left
                · go_simp
                  with_reducible rfl
                simp only [Act.put, List.setIfInBounds_toArray, List.set_cons_zero, List.set_cons_succ]
                refine a_move (some 187) _ rfl rfl rfl (by rfl) ?_
                simp only [Act.put, List.setIfInBounds_toArray, List.set_cons_zero, List.set_cons_succ]
                refine a_move (some 188) _ rfl rfl rfl (by rfl) ?_
                simp only [Act.put, List.setIfInBounds_toArray, List.set_cons_zero, List.set_cons_succ]
                refine a_call (some 189) rfl rfl (by rfl) 20 #[.pointer (some ⟨gx, 0, none⟩)] (by go_simp) (HEX.mono fun r w' ⟨he, hw'⟩ => ⟨_, he, by rw [hw']; exact hFin, ?_⟩)
                subst w'
                simp only [Act.put, List.setIfInBounds_toArray, List.set_cons_zero, List.set_cons_succ]
                refine a_value (some 190) ?_ rfl rfl (by rfl) (fun w hw => ?_) ?_
                rotate_left
                · go_simp
                  with_reducible rfl
                simp only [Act.put, List.setIfInBounds_toArray, List.set_cons_zero, List.set_cons_succ]
                refine a_value (some 191) ?_ rfl rfl (by rfl) (fun w hw => ?_) ?_
                rotate_left
                · go_simp
                  with_reducible rfl
                simp only [Act.put, List.setIfInBounds_toArray, List.set_cons_zero, List.set_cons_succ]
                refine a_move (some 192) _ rfl rfl rfl (by rfl) ?_
                simp only [Act.put, List.setIfInBounds_toArray, List.set_cons_zero, List.set_cons_succ]
                refine a_move (some 193) _ rfl rfl rfl (by rfl) ?_
                simp only [Act.put, List.setIfInBounds_toArray, List.set_cons_zero, List.set_cons_succ]
                refine a_move (some 195) _ rfl rfl rfl (by rfl) ?_
                simp only [Act.put, List.setIfInBounds_toArray, List.set_cons_zero, List.set_cons_succ]
                refine a_value (some 196) ?_ rfl rfl (by rfl) (fun w hw => ?_) ?_
                rotate_left
                · go_simp
                  with_reducible rfl
                simp only [Act.put, List.setIfInBounds_toArray, List.set_cons_zero, List.set_cons_succ]
                refine a_call (some 194) rfl rfl (by rfl) 20 #[.pointer (some ⟨g, 0, none⟩)] (by go_simp) (HED.mono fun r w' ⟨he, hw'⟩ => ⟨_, he, by rw [hw']; exact hFin, ?_⟩)
                subst w'
                simp only [Act.put, List.setIfInBounds_toArray, List.set_cons_zero, List.set_cons_succ]
                refine a_value (some 197) ?_ rfl rfl (by rfl) (fun w hw => ?_) ?_
                rotate_left
                · go_simp
                  with_reducible rfl
                simp only [Act.put, List.setIfInBounds_toArray, List.set_cons_zero, List.set_cons_succ]
                refine a_value (some 198) ?_ rfl rfl (by rfl) (fun w hw => ?_) ?_
                rotate_left
                · go_simp
                  with_reducible rfl
                simp only [Act.put, List.setIfInBounds_toArray, List.set_cons_zero, List.set_cons_succ]
                refine a_value (some 6) ?_ rfl rfl (by rfl) (fun w hw => ?_) ?_
                rotate_left
                · go_simp
                  with_reducible rfl
                simp only [Act.put, List.setIfInBounds_toArray, List.set_cons_zero, List.set_cons_succ]
                refine a_done ?_
                simp only [Exit.then]
                go_wp2
                go_ret
                exact ⟨rfl, HFin.out.old⟩
end Go.Proofs.Ytpdcmhfmicemnaa
