/- What the walk of WalWhole keeps. -/
import Derived.Test.YtlbapnecmhlgmaaCommitA
import Derived.Test.YtlbapnecmhlgmaaShows
namespace Go.Proofs.Ytlbapnecmhlgmaa
open Go.RowKit

theorem Try.info9 : (Try.prog.info? 9).map (fun i => (i.zero, i.size, i.bytes)) = some (some (.string ⟨#[]⟩), 1, 16) := by kernel_rfl
theorem row_unlike {w : World} {k k' : Nat} {C C' : Array Value} {t t' : TypeId} (a1 : Row w k C t) (a2 : Row w k' C' t') (ht : t ≠ t') : k ≠ k' := fun e => by
  subst e
  have := a1.symm.trans a2
  simp at this
  exact ht this.2
/-- 'append(v, t)', v texts of one's own. -/
theorem wpList_txt {ops : Array Oper} {rest : List Oper} {o : Oper} {a : Act} {w : World} {Q : Exit → Act → World → Prop} (hgd : o.guard = none) (s x : Operand) (ho : o.op = .call { callee := .builtin .append, args := #[s, x], argTypes := #[67, 67] }) (base : Nat) (v : Value) (N : List ByteArray) (t : ByteArray) (W : World) (hw : w = W.alloc (.cells #[.string t] 9))
    (hs : a.eval s = v) (hown : Hid (W.ownsRow base 9 1 v N.length (N.map Value.string))) (q : Nat) (hq : q = W.heap.size) (hx : a.eval x = .slice (some ⟨q, 0, none⟩) 1 1) (hn : N.length ≤ 1000) (hbase : base ≤ W.heap.size)
    (h : ∀ v' w', Hid (w'.ownsRow base 9 1 v' (N ++ [t]).length ((N ++ [t]).map Value.string)) → (W.alloc (.cells #[.string t] 9)).grownBy w' v.ownBlock → wpList Try.prog ops Q rest (a.put o.dst v') w') : wpList Try.prog ops Q (o :: rest) a w := by
  subst hw
  subst hq
  obtain ⟨i0, hi, hz0, hz1, hz2⟩ := info_parts Try.info9
  have own' : (W.alloc (.cells #[.string t] 9)).ownsRow base 9 1 v N.length (N.map Value.string) := World.ownsRow.alloc (show W.ownsRow base 9 1 v N.length _ from hown) _
  refine wpList_append_own_wide _ hgd s x 67 ho base 9 i0 (.string ⟨#[]⟩) 1 16 Try.underlying67 hi hz0 hz1 hz2 rfl (by decide) v N.length _ hs own' _ 1 1 [.string t] hx rfl (cell_one_new _ _ _) (fun u hu => by simp at hu; subst hu; rfl) (by unfold maxLen; omega) (by omega) (by simp; omega) (fun v' w' h1 h2 _ => h v' w' ?_ h2)
  show w'.ownsRow base 9 1 v' (N ++ [t]).length ((N ++ [t]).map Value.string)
  rw [List.length_append, List.length_cons, List.length_nil, List.map_append]
  exact h1

section
variable {w0 : World} {g g1 c1 g2 c2 gj gm : Nat} {ev : Value} {D : Dk} {J : Jn} {w w' : World}
/-- All of it stays where a row of another kind grows. -/
theorem Sh.grown (h : Sh w0 g g1 c1 g2 c2 gj gm ev D J w) {e : TypeId} {n s : Nat} {v : Value} {xs : List Value} (own : w.ownsRow w0.heap.size e s v n xs) (hg : w.grownBy w' v.ownBlock) (h1 : e ≠ 64) (h2 : e ≠ 95) (h3 : e ≠ 5) (h4 : e ≠ 56) : Sh w0 g g1 c1 g2 c2 gj gm ev D J w' := by
  obtain ⟨hos, htape, hout, hsz, hblk⟩ := hg
  have rne : ∀ k C t, Row w k C t → t ≠ e → w'.heap[k]? = w.heap[k]? := fun k C t hr ht => hblk k hr.lt (fun e1 => by
    obtain ⟨_, _, cur, hr2⟩ := ownsRow_lt own k e1.symm
    exact row_unlike hr hr2 ht rfl)
  obtain ⟨_, _, _, _, ca, r1, _⟩ := ownsRow_slice h.disk.first
  obtain ⟨_, _, _, _, cb, r2, _⟩ := ownsRow_slice h.disk.now
  obtain ⟨es, clock, m1, m2⟩ := h.jn.map.ex
  refine ⟨h.disk.keep fun k hk => ?_, ⟨(rne _ _ _ h.jn.row (Ne.symm h4)).trans h.jn.row, ⟨⟨es, clock, ?_, m2⟩, h.jn.map.nodup⟩, h.jn.geJ, h.jn.geM⟩, h.ok, h.s12, h.at0, h.sec4, h.old.trans ⟨hos, htape, hout, hsz, fun k hk => ?_⟩⟩
  · rcases hk with rfl | rfl | rfl | hk
    · exact rne _ _ _ h.disk.row (Ne.symm h1)
    · exact rne _ _ _ r1 (Ne.symm h3)
    · exact rne _ _ _ r2 (Ne.symm h3)
    · obtain ⟨_, _, cur, r3⟩ := ownsRow_lt h.disk.evs k hk
      exact rne _ _ _ r3 (Ne.symm h2)
  · refine (hblk gm (Array.getElem?_eq_some_iff.1 m1).1 (fun e1 => ?_)).trans m1
    obtain ⟨_, _, cur, hr2⟩ := ownsRow_lt own gm e1.symm
    have := m1.symm.trans hr2
    cases this
  · have := h.old.size
    exact hblk k (by omega) (fun e1 => by
      have := (ownsRow_lt own k e1.symm).2.1
      omega)
end
/-- The law's rows, the disk and the journal. -/
structure Wr (w0 : World) (g g1 c1 g2 c2 gj gm : Nat) (ev : Value) (D : Dk) (J : Jn) (sts : List ByteArray) (ends : List Nat) (sv xv : Value) (w : World) : Prop where
  sh : Sh w0 g g1 c1 g2 c2 gj gm ev D J w
  rs : w.ownsRow w0.heap.size 9 1 sv sts.length (sts.map Value.string)
  re : w.ownsRow w0.heap.size 3 1 xv ends.length (ends.map fun k => Value.int .i64 (k : Nat))
section
variable {w0 : World} {g g1 c1 g2 c2 gj gm : Nat} {ev : Value} {D : Dk} {J : Jn} {sts : List ByteArray} {ends : List Nat} {sv xv : Value} {w w' : World}
theorem own_below {n s base : Nat} {e : TypeId} {v : Value} {xs : List Value} (h : w.ownsRow base e s v n xs) (hb : Below w.heap.size w w') : w'.ownsRow base e s v n xs :=
  ownsRow_keep h (fun k hk _ => hb.block k (ownsRow_lt h k hk).1)
theorem Wr.next (h : Wr w0 g g1 c1 g2 c2 gj gm ev D J sts ends sv xv w) (hb : Below w.heap.size w w') : Wr w0 g g1 c1 g2 c2 gj gm ev D J sts ends sv xv w' :=
  ⟨h.sh.next hb, own_below h.rs hb, own_below h.re hb⟩
theorem own_grown2 {n s n' s' base base' : Nat} {e e' : TypeId} {v v' : Value} {xs xs' : List Value} (h : w.ownsRow base e s v n xs) (o : w.ownsRow base' e' s' v' n' xs') (hg : w.grownBy w' v'.ownBlock) (hne : e ≠ e') : w'.ownsRow base e s v n xs := by
  obtain ⟨hos, htape, hout, hsz, hblk⟩ := hg
  exact ownsRow_keep h (fun k hk _ => by
    obtain ⟨h1, _, cur, hr⟩ := ownsRow_lt h k hk
    exact hblk k h1 (fun e1 => by
      obtain ⟨_, _, cur2, hr2⟩ := ownsRow_lt o k e1.symm
      exact row_unlike hr hr2 hne rfl))
theorem Wr.txt (h : Wr w0 g g1 c1 g2 c2 gj gm ev D J sts ends sv xv w) (t : ByteArray) (sv' : Value) (own : Hid (w'.ownsRow w0.heap.size 9 1 sv' (sts ++ [t]).length ((sts ++ [t]).map Value.string))) (hg : (w.alloc (.cells #[.string t] 9)).grownBy w' sv.ownBlock) : Wr w0 g g1 c1 g2 c2 gj gm ev D J (sts ++ [t]) ends sv' xv w' := by
  have h1 := h.next ((Below.refl _ _).alloc (Nat.le_refl _) (.cells #[.string t] 9))
  exact ⟨h1.sh.grown h1.rs hg (by decide) (by decide) (by decide) (by decide), own.out, own_grown2 h1.re h1.rs hg (by decide)⟩
theorem Wr.num (h : Wr w0 g g1 c1 g2 c2 gj gm ev D J sts ends sv xv w) (t : Nat) (xv' : Value) (own : Hid (w'.ownsRow w0.heap.size 3 1 xv' (ends ++ [t]).length ((ends ++ [t]).map fun k => Value.int .i64 (k : Nat)))) (hg : (w.alloc (.cells #[.int .i64 t] 3)).grownBy w' xv.ownBlock) : Wr w0 g g1 c1 g2 c2 gj gm ev D J sts (ends ++ [t]) sv xv' w' := by
  have h1 := h.next ((Below.refl _ _).alloc (Nat.le_refl _) (.cells #[.int .i64 t] 3))
  exact ⟨h1.sh.grown h1.re hg (by decide) (by decide) (by decide) (by decide), own_grown2 h1.rs h1.re hg (by decide), own.out⟩
end

/-- A disk that is opened some times. -/
structure Tw (wS : World) (base g g1 c1 g2 c2 : Nat) (T : ByteArray) (t : Nat) (ev : Value) (D : Dk) (w : World) : Prop where
  tt : To wS w base g g1 c1 g2 c2 (.slice none 0 0) ev D
  rc : Rec T D.B
  s12 : D.s = 12
  len : D.E.length ≤ 6 * t
  shows : 1 ≤ t → shN D.B 8 = T
  ro : Ro wS w
  bel : Below base wS w
theorem Tw.start {w : World} {base g g1 c1 g2 c2 : Nat} {T : ByteArray} {X : Nat → Int} (hD : DiskAt w base g g1 c1 g2 c2 (.slice none 0 0) (freshD 12 X)) (hR : Rec T X) : Tw w base g g1 c1 g2 c2 T 0 (.slice none 0 0) (freshD 12 X) w :=
  ⟨To.refl hD, hR, rfl, Nat.le_refl _, fun h => absurd h (by omega), ⟨fun _ _ _ h _ _ _ => h⟩, Below.refl _ _⟩
theorem Tw.open' {wS : World} {base g g1 c1 g2 c2 : Nat} {T : ByteArray} {t : Nat} {ev : Value} {D : Dk} {w : World} (h : Tw wS base g g1 c1 g2 c2 T t ev D w) (ht : t ≤ 2) (hb : base ≤ wS.heap.size) :
    Calls Try.prog 10 #[.pointer (some ⟨g, 0, none⟩), .int .i64 0, .int .i64 4] w fun e w' => ∃ gj ev' D', e = .returned (.tuple #[.pointer (some ⟨gj, 0, none⟩), .int .i64 0]) ∧ Hid (Tw wS base g g1 c1 g2 c2 T (t + 1) ev' D' w') := by
  have hl := h.len
  refine (open_rec h.tt.disk (Nat.le_trans hb h.bel.size) (by omega) h.s12 T h.rc).mono ?_
  rintro e w' ⟨gj, ev', D', rfl, hT, hF, hB, hO⟩
  exact ⟨gj, ev', D', rfl, h.tt.trans hT.out, hO.out.rec', hO.out.s12, by have := hO.out.len; omega, fun _ => hO.out.shows, h.ro.trans (Ro.of_fr hF.out), h.bel.trans hB.out⟩

/-- The three disks. -/
structure Fi (w0 : World) (sv : Value) (sts : List ByteArray) (bl bo go go1 co1 go2 co2 bf gf gf1 cf1 gf2 cf2 bh gh gh1 ch1 gh2 ch2 : Nat) (ev1 : Value) (D1 : Dk) (evo : Value) (Do : Dk) (evh : Value) (Dh : Dk) (w : World) : Prop where
  rs : w.ownsRow w0.heap.size 9 1 sv sts.length (sts.map Value.string)
  lst : Row w bl #[.pointer (some ⟨go, 0, none⟩), .pointer (some ⟨gh, 0, none⟩)] 23
  o : DiskAt w bo go go1 co1 go2 co2 evo Do
  f : DiskAt w bf gf gf1 cf1 gf2 cf2 ev1 D1
  h : DiskAt w bh gh gh1 ch1 gh2 ch2 evh Dh
  old : Below w0.heap.size w0 w
  a1 : go < bf ∧ go1 < bf ∧ go2 < bf
  a2 : gf < bh ∧ gf1 < bh ∧ gf2 < bh
  a3 : bf ≤ bh
  a4 : bh ≤ w.heap.size
  a5 : w0.heap.size ≤ bo
  a6 : bo ≤ bf
def Rl (w0 : World) (sv : Value) (sts : List ByteArray) (T : ByteArray) (bl go gf gh : Nat) (i : Nat) (w : World) : Prop :=
  ∃ bo go1 co1 go2 co2 bf gf1 cf1 gf2 cf2 bh gh1 ch1 gh2 ch2 ev1 D1 evo Do evh Dh, Fi w0 sv sts bl bo go go1 co1 go2 co2 bf gf gf1 cf1 gf2 cf2 bh gh gh1 ch1 gh2 ch2 ev1 D1 evo Do evh Dh w ∧ (shN D1.B 8 = T ∧ D1.s = 12) ∧
    ((i = 0 ∧ evo = .slice none 0 0 ∧ evh = .slice none 0 0 ∧ (∃ X Xh, Do = freshD 12 X ∧ Dh = freshD 12 Xh ∧ Rec T X ∧ Rec T Xh)) ∨ (i = 1 ∧ (shN Do.B 8 = T ∧ Do.s = 12) ∧ evh = .slice none 0 0 ∧ ∃ Xh, Dh = freshD 12 Xh ∧ Rec T Xh) ∨ (i = 2 ∧ (shN Do.B 8 = T ∧ Do.s = 12) ∧ (shN Dh.B 8 = T ∧ Dh.s = 12)))
section
variable {w0 : World} {sv : Value} {sts : List ByteArray} {T : ByteArray} {bl go gf gh : Nat} {i : Nat} {w : World}
theorem Rl.take (h : Rl w0 sv sts T bl go gf gh i w) (hi : i < 2) : ∃ bx gx gx1 cx1 gx2 cx2 XX, w.cell? ⟨bl, i, none⟩ = some (.pointer (some ⟨gx, 0, none⟩)) ∧ Hid (DiskAt w bx gx gx1 cx1 gx2 cx2 (.slice none 0 0) (freshD 12 XX)) ∧ Hid (Rec T XX) ∧ Hid (bx ≤ w.heap.size) ∧
    Hid (∀ ev' D' w', Hid (Tw w bx gx gx1 cx1 gx2 cx2 T 2 ev' D' w') → Rl w0 sv sts T bl go gf gh (i + 1) w') := by
  obtain ⟨bo, go1, co1, go2, co2, bf, gf1, cf1, gf2, cf2, bh, gh1, ch1, gh2, ch2, ev1, D1, evo, Do, evh, Dh, F, hf, hc⟩ := h
  obtain ⟨a11, a12, a13⟩ := F.a1
  obtain ⟨a21, a22, a23⟩ := F.a2
  have a3 := F.a3
  have a4 := F.a4
  have a5 := F.a5
  have a6 := F.a6
  have f1 := F.f.ge
  have f2 := (ownsRow_slice F.f.first).1
  have f3 := (ownsRow_slice F.f.now).1
  have k1 := F.h.ge
  have k2 := (ownsRow_slice F.h.first).1
  have k3 := (ownsRow_slice F.h.now).1
  rcases hc with ⟨rfl, rfl, rfl, X, Xh, rfl, rfl, rX, rH⟩ | ⟨rfl, ho, rfl, Xh, rfl, rH⟩ | ⟨rfl, _⟩
  · refine ⟨bo, go, go1, co1, go2, co2, X, (F.lst.cell 0).trans rfl, F.o, rX, (by show _ ≤ _; omega), fun ev' D' w' t => ?_⟩
    have t := t.out
    exact ⟨bo, go1, co1, go2, co2, bf, gf1, cf1, gf2, cf2, bh, gh1, ch1, gh2, ch2, ev1, D1, ev', D', .slice none 0 0, freshD 12 Xh, ⟨ownsRow_ro F.rs t.ro (by decide) (by decide) (by decide), t.ro.row _ _ _ F.lst (by decide) (by decide) (by decide), t.tt.disk,
      F.f.other F.o t.tt.chg rfl (by omega) (by omega) (by omega), F.h.other F.o t.tt.chg rfl (by omega) (by omega) (by omega), F.old.trans (t.bel.mono a5), F.a1, F.a2, F.a3, Nat.le_trans a4 t.bel.size, a5, a6⟩, hf, .inr (.inl ⟨rfl, ⟨t.shows (by omega), t.s12⟩, rfl, Xh, rfl, rH⟩)⟩
  · refine ⟨bh, gh, gh1, ch1, gh2, ch2, Xh, (F.lst.cell 1).trans rfl, F.h, rH, (by show _ ≤ _; omega), fun ev' D' w' t => ?_⟩
    have t := t.out
    exact ⟨bo, go1, co1, go2, co2, bf, gf1, cf1, gf2, cf2, bh, gh1, ch1, gh2, ch2, ev1, D1, evo, Do, ev', D', ⟨ownsRow_ro F.rs t.ro (by decide) (by decide) (by decide), t.ro.row _ _ _ F.lst (by decide) (by decide) (by decide), F.o.other F.h t.tt.chg rfl (by omega) (by omega) (by omega),
      F.f.other F.h t.tt.chg rfl (by omega) (by omega) (by omega), t.tt.disk, F.old.trans (t.bel.mono (by omega)), F.a1, F.a2, F.a3, Nat.le_trans a4 t.bel.size, a5, a6⟩, hf, .inr (.inr ⟨rfl, ho, ⟨t.shows (by omega), t.s12⟩⟩)⟩
  · omega
/-- At the end all three show the same. -/
structure En (w0 : World) (sv : Value) (sts : List ByteArray) (T : ByteArray) (go gf gh : Nat) (w : World) : Prop where
  rs : w.ownsRow w0.heap.size 9 1 sv sts.length (sts.map Value.string)
  old : Below w0.heap.size w0 w
  o : ∃ b g1 c1 g2 c2 ev D, DiskAt w b go g1 c1 g2 c2 ev D ∧ D.s = 12 ∧ shN D.B 8 = T
  f : ∃ b g1 c1 g2 c2 ev D, DiskAt w b gf g1 c1 g2 c2 ev D ∧ D.s = 12 ∧ shN D.B 8 = T
  h : ∃ b g1 c1 g2 c2 ev D, DiskAt w b gh g1 c1 g2 c2 ev D ∧ D.s = 12 ∧ shN D.B 8 = T
theorem Rl.end' (h : Rl w0 sv sts T bl go gf gh 2 w) : En w0 sv sts T go gf gh w := by
  obtain ⟨bo, go1, co1, go2, co2, bf, gf1, cf1, gf2, cf2, bh, gh1, ch1, gh2, ch2, ev1, D1, evo, Do, evh, Dh, F, hf, hc⟩ := h
  rcases hc with ⟨h, _⟩ | ⟨h, _⟩ | ⟨_, ho, hh⟩
  · omega
  · omega
  · exact ⟨F.rs, F.old, ⟨_, _, _, _, _, _, _, F.o, ho.2, ho.1⟩, ⟨_, _, _, _, _, _, _, F.f, hf.2, hf.1⟩, ⟨_, _, _, _, _, _, _, F.h, hh.2, hh.1⟩⟩
theorem En.next {w' : World} (h : En w0 sv sts T go gf gh w) (hb : Below w.heap.size w w') : En w0 sv sts T go gf gh w' := by
  obtain ⟨b1, x1, x2, x3, x4, x5, x6, o1, o2, o3⟩ := h.o
  obtain ⟨b2, y1, y2, y3, y4, y5, y6, f1, f2, f3⟩ := h.f
  obtain ⟨b3, z1, z2, z3, z4, z5, z6, h1, h2, h3⟩ := h.h
  exact ⟨own_below h.rs hb, h.old.trans (hb.mono h.old.size), ⟨_, _, _, _, _, _, _, o1.below hb (Nat.le_refl _), o2, o3⟩, ⟨_, _, _, _, _, _, _, f1.below hb (Nat.le_refl _), f2, f3⟩, ⟨_, _, _, _, _, _, _, h1.below hb (Nat.le_refl _), h2, h3⟩⟩
theorem En.shown (h : En w0 sv sts T go gf gh w) (x : Nat) (hx : x = go ∨ x = gf ∨ x = gh) : Calls Try.prog 25 #[.pointer (some ⟨x, 0, none⟩)] w fun e w' => e = .returned (.string T) ∧ Hid (En w0 sv sts T go gf gh w') := by
  have : ∃ b g1 c1 g2 c2 ev D, DiskAt w b x g1 c1 g2 c2 ev D ∧ D.s = 12 ∧ shN D.B 8 = T := by
    rcases hx with rfl | rfl | rfl
    · exact h.o
    · exact h.f
    · exact h.h
  obtain ⟨_, _, _, _, _, _, D, d1, d2, d3⟩ := this
  exact (shown_ok d1 d2).mono fun _ _ ⟨he, hb⟩ => ⟨by rw [he, d3], h.next hb⟩
end
end Go.Proofs.Ytlbapnecmhlgmaa
