/- What the walk of WalWhole keeps. Put and Commit in the walk of WalWhole. What the power loss of the pair, and the law's walk, want besides: bools appended; what stays where another part changes. -/
import Derived.Test.YtlbapnecmhlgmaaM20
import Derived.Test.YtlbapnecmhlgmaaM19
namespace Go.Proofs.Ytlbapnecmhlgmaa
open Go.RowKit

theorem Try.info9w : (Try.prog.info? 9).map (fun i => (i.zero, i.size, i.bytes)) = some (some (.string ⟨#[]⟩), 1, 16) := by kernel_rfl
theorem row_unlike {w : World} {k k' : Nat} {C C' : Array Value} {t t' : TypeId} (a1 : Row w k C t) (a2 : Row w k' C' t') (ht : t ≠ t') : k ≠ k' := fun e => by
  subst e
  have := a1.symm.trans a2
  simp at this
  exact ht this.2
/-- 'append(v, t)', v texts of one's own. -/
theorem wpList_txt {ops : Array Oper} {rest : List Oper} {o : Oper} {a : Act} {w : World} {Q : Exit → Act → World → Prop} (hgd : o.guard = none) (s x : Operand) (ho : o.op = .call { callee := .builtin .append, args := #[s, x], argTypes := #[67, 67] }) (base : Nat) (v : Value) (N : List ByteArray) (t : ByteArray) (W : World) (hw : w = W.alloc (.cells #[.string t] 9))
    (hs : a.eval s = v) (hown : Hid (W.ownsRow base 9 1 v N.length (N.map Value.string))) (q : Nat) (hq : q = W.heap.size) (hx : a.eval x = .slice (some ⟨q, 0, none⟩) 1 1) (hn : N.length ≤ 1000) (hbase : base ≤ W.heap.size)
    (h : ∀ v' w', Hid (w'.ownsRow base 9 1 v' (N ++ [t]).length ((N ++ [t]).map Value.string)) → (W.alloc (.cells #[.string t] 9)).grownBy w' v.ownBlock → wpList Try.prog ops Q rest (a.put o.dst v') w') : wpList Try.prog ops Q (o :: rest) a w := by
  subst hw
  subst hq
  obtain ⟨i0, hi, hz0, hz1, hz2⟩ := info_parts Try.info9w
  have own' : (W.alloc (.cells #[.string t] 9)).ownsRow base 9 1 v N.length (N.map Value.string) := World.ownsRow.alloc (show W.ownsRow base 9 1 v N.length _ from hown) _
  refine wpList_append_own_wide _ hgd s x 67 ho base 9 i0 (.string ⟨#[]⟩) 1 16 Try.underlying67 hi hz0 hz1 hz2 rfl (by decide) v N.length _ hs own' _ 1 1 [.string t] hx rfl (cell_one_new _ _ _) (fun u hu => by simp at hu; subst hu; rfl) (by unfold maxLen; omega) (by omega) (by simp; omega) (fun v' w' h1 h2 _ => h v' w' ?_ h2)
  show w'.ownsRow base 9 1 v' (N ++ [t]).length ((N ++ [t]).map Value.string)
  rw [List.length_append, List.length_cons, List.length_nil, List.map_append]
  exact h1

section
variable {w0 : World} {g g1 c1 g2 c2 gj gm : Nat} {ev : Value} {D : Dk} {J : Jn} {w w' : World}
/-- All of it stays where a row of another kind grows. -/
theorem Sh.grown (h : Sh w0 g g1 c1 g2 c2 gj gm ev D J w) {e : TypeId} {n s : Nat} {v : Value} {xs : List Value} (own : w.ownsRow w0.heap.size e s v n xs) (hg : w.grownBy w' v.ownBlock) (h1 : e ≠ 64) (h2 : e ≠ 95) (h3 : e ≠ 5) (h4 : e ≠ 56) : Sh w0 g g1 c1 g2 c2 gj gm ev D J w' := by
  obtain ⟨hos, htape, hout, hsz, hblk⟩ := hg
  have rne : ∀ k C t, Row w k C t → t ≠ e → w'.heap[k]? = w.heap[k]? := fun k C t hr ht => hblk k hr.lt (fun e1 => by
    obtain ⟨_, _, cur, hr2⟩ := ownsRow_lt own k e1.symm
    exact row_unlike hr hr2 ht rfl)
  obtain ⟨_, _, _, _, ca, r1, _⟩ := ownsRow_slice h.disk.first
  obtain ⟨_, _, _, _, cb, r2, _⟩ := ownsRow_slice h.disk.now
  obtain ⟨es, clock, m1, m2⟩ := h.jn.map.ex
  refine ⟨h.disk.keep fun k hk => ?_, ⟨(rne _ _ _ h.jn.row (Ne.symm h4)).trans h.jn.row, ⟨⟨es, clock, ?_, m2⟩, h.jn.map.nodup⟩, h.jn.geJ, h.jn.geM⟩, h.ok, h.s12, h.at0, h.sec4, h.old.trans ⟨hos, htape, hout, hsz, fun k hk => ?_⟩⟩
  · rcases hk with rfl | rfl | rfl | hk
    · exact rne _ _ _ h.disk.row (Ne.symm h1)
    · exact rne _ _ _ r1 (Ne.symm h3)
    · exact rne _ _ _ r2 (Ne.symm h3)
    · obtain ⟨_, _, cur, r3⟩ := ownsRow_lt h.disk.evs k hk
      exact rne _ _ _ r3 (Ne.symm h2)
  · refine (hblk gm (Array.getElem?_eq_some_iff.1 m1).1 (fun e1 => ?_)).trans m1
    obtain ⟨_, _, cur, hr2⟩ := ownsRow_lt own gm e1.symm
    have := m1.symm.trans hr2
    cases this
  · have := h.old.size
    exact hblk k (by omega) (fun e1 => by
      have := (ownsRow_lt own k e1.symm).2.1
      omega)
end
/-- The law's rows, the disk and the journal. -/
structure Wr (w0 : World) (g g1 c1 g2 c2 gj gm : Nat) (ev : Value) (D : Dk) (J : Jn) (sts : List ByteArray) (ends : List Nat) (sv xv : Value) (w : World) : Prop where
  sh : Sh w0 g g1 c1 g2 c2 gj gm ev D J w
  rs : w.ownsRow w0.heap.size 9 1 sv sts.length (sts.map Value.string)
  re : w.ownsRow w0.heap.size 3 1 xv ends.length (ends.map fun k => Value.int .i64 (k : Nat))
section
variable {w0 : World} {g g1 c1 g2 c2 gj gm : Nat} {ev : Value} {D : Dk} {J : Jn} {sts : List ByteArray} {ends : List Nat} {sv xv : Value} {w w' : World}
theorem own_below {n s base : Nat} {e : TypeId} {v : Value} {xs : List Value} (h : w.ownsRow base e s v n xs) (hb : Below w.heap.size w w') : w'.ownsRow base e s v n xs :=
  ownsRow_keep h (fun k hk _ => hb.block k (ownsRow_lt h k hk).1)
theorem Wr.next (h : Wr w0 g g1 c1 g2 c2 gj gm ev D J sts ends sv xv w) (hb : Below w.heap.size w w') : Wr w0 g g1 c1 g2 c2 gj gm ev D J sts ends sv xv w' :=
  ⟨h.sh.next hb, own_below h.rs hb, own_below h.re hb⟩
theorem own_grown2 {n s n' s' base base' : Nat} {e e' : TypeId} {v v' : Value} {xs xs' : List Value} (h : w.ownsRow base e s v n xs) (o : w.ownsRow base' e' s' v' n' xs') (hg : w.grownBy w' v'.ownBlock) (hne : e ≠ e') : w'.ownsRow base e s v n xs := by
  obtain ⟨hos, htape, hout, hsz, hblk⟩ := hg
  exact ownsRow_keep h (fun k hk _ => by
    obtain ⟨h1, _, cur, hr⟩ := ownsRow_lt h k hk
    exact hblk k h1 (fun e1 => by
      obtain ⟨_, _, cur2, hr2⟩ := ownsRow_lt o k e1.symm
      exact row_unlike hr hr2 hne rfl))
theorem Wr.txt (h : Wr w0 g g1 c1 g2 c2 gj gm ev D J sts ends sv xv w) (t : ByteArray) (sv' : Value) (own : Hid (w'.ownsRow w0.heap.size 9 1 sv' (sts ++ [t]).length ((sts ++ [t]).map Value.string))) (hg : (w.alloc (.cells #[.string t] 9)).grownBy w' sv.ownBlock) : Wr w0 g g1 c1 g2 c2 gj gm ev D J (sts ++ [t]) ends sv' xv w' := by
  have h1 := h.next ((Below.refl _ _).alloc (Nat.le_refl _) (.cells #[.string t] 9))
  exact ⟨h1.sh.grown h1.rs hg (by decide) (by decide) (by decide) (by decide), own.out, own_grown2 h1.re h1.rs hg (by decide)⟩
theorem Wr.num (h : Wr w0 g g1 c1 g2 c2 gj gm ev D J sts ends sv xv w) (t : Nat) (xv' : Value) (own : Hid (w'.ownsRow w0.heap.size 3 1 xv' (ends ++ [t]).length ((ends ++ [t]).map fun k => Value.int .i64 (k : Nat)))) (hg : (w.alloc (.cells #[.int .i64 t] 3)).grownBy w' xv.ownBlock) : Wr w0 g g1 c1 g2 c2 gj gm ev D J sts (ends ++ [t]) sv xv' w' := by
  have h1 := h.next ((Below.refl _ _).alloc (Nat.le_refl _) (.cells #[.int .i64 t] 3))
  exact ⟨h1.sh.grown h1.re hg (by decide) (by decide) (by decide) (by decide), own_grown2 h1.rs h1.re hg (by decide), own.out⟩
end

/-- A disk that is opened some times. -/
structure Tw (wS : World) (base g g1 c1 g2 c2 : Nat) (T : ByteArray) (t : Nat) (ev : Value) (D : Dk) (w : World) : Prop where
  tt : To wS w base g g1 c1 g2 c2 (.slice none 0 0) ev D
  rc : Rec T D.B
  s12 : D.s = 12
  len : D.E.length ≤ 6 * t
  shows : 1 ≤ t → shN D.B 8 = T
  ro : Ro wS w
  bel : Below base wS w
theorem Tw.start {w : World} {base g g1 c1 g2 c2 : Nat} {T : ByteArray} {X : Nat → Int} (hD : DiskAt w base g g1 c1 g2 c2 (.slice none 0 0) (freshD 12 X)) (hR : Rec T X) : Tw w base g g1 c1 g2 c2 T 0 (.slice none 0 0) (freshD 12 X) w :=
  ⟨To.refl hD, hR, rfl, Nat.le_refl _, fun h => absurd h (by omega), ⟨fun _ _ _ h _ _ _ => h⟩, Below.refl _ _⟩
theorem Tw.open' {wS : World} {base g g1 c1 g2 c2 : Nat} {T : ByteArray} {t : Nat} {ev : Value} {D : Dk} {w : World} (h : Tw wS base g g1 c1 g2 c2 T t ev D w) (ht : t ≤ 2) (hb : base ≤ wS.heap.size) :
    Calls Try.prog 10 #[.pointer (some ⟨g, 0, none⟩), .int .i64 0, .int .i64 4] w fun e w' => ∃ gj ev' D', e = .returned (.tuple #[.pointer (some ⟨gj, 0, none⟩), .int .i64 0]) ∧ Hid (Tw wS base g g1 c1 g2 c2 T (t + 1) ev' D' w') := by
  have hl := h.len
  refine (open_rec h.tt.disk (Nat.le_trans hb h.bel.size) (by omega) h.s12 T h.rc).mono ?_
  rintro e w' ⟨gj, ev', D', rfl, hT, hF, hB, hO⟩
  exact ⟨gj, ev', D', rfl, h.tt.trans hT.out, hO.out.rec', hO.out.s12, by have := hO.out.len; omega, fun _ => hO.out.shows, h.ro.trans (Ro.of_fr hF.out), h.bel.trans hB.out⟩

/-- The three disks. -/
structure Fi (w0 : World) (sv : Value) (sts : List ByteArray) (bl bo go go1 co1 go2 co2 bf gf gf1 cf1 gf2 cf2 bh gh gh1 ch1 gh2 ch2 : Nat) (ev1 : Value) (D1 : Dk) (evo : Value) (Do : Dk) (evh : Value) (Dh : Dk) (w : World) : Prop where
  rs : w.ownsRow w0.heap.size 9 1 sv sts.length (sts.map Value.string)
  lst : Row w bl #[.pointer (some ⟨go, 0, none⟩), .pointer (some ⟨gh, 0, none⟩)] 23
  o : DiskAt w bo go go1 co1 go2 co2 evo Do
  f : DiskAt w bf gf gf1 cf1 gf2 cf2 ev1 D1
  h : DiskAt w bh gh gh1 ch1 gh2 ch2 evh Dh
  old : Below w0.heap.size w0 w
  a1 : go < bf ∧ go1 < bf ∧ go2 < bf
  a2 : gf < bh ∧ gf1 < bh ∧ gf2 < bh
  a3 : bf ≤ bh
  a4 : bh ≤ w.heap.size
  a5 : w0.heap.size ≤ bo
  a6 : bo ≤ bf
def Rl (w0 : World) (sv : Value) (sts : List ByteArray) (T : ByteArray) (bl go gf gh : Nat) (i : Nat) (w : World) : Prop :=
  ∃ bo go1 co1 go2 co2 bf gf1 cf1 gf2 cf2 bh gh1 ch1 gh2 ch2 ev1 D1 evo Do evh Dh, Fi w0 sv sts bl bo go go1 co1 go2 co2 bf gf gf1 cf1 gf2 cf2 bh gh gh1 ch1 gh2 ch2 ev1 D1 evo Do evh Dh w ∧ (shN D1.B 8 = T ∧ D1.s = 12) ∧
    ((i = 0 ∧ evo = .slice none 0 0 ∧ evh = .slice none 0 0 ∧ (∃ X Xh, Do = freshD 12 X ∧ Dh = freshD 12 Xh ∧ Rec T X ∧ Rec T Xh)) ∨ (i = 1 ∧ (shN Do.B 8 = T ∧ Do.s = 12) ∧ evh = .slice none 0 0 ∧ ∃ Xh, Dh = freshD 12 Xh ∧ Rec T Xh) ∨ (i = 2 ∧ (shN Do.B 8 = T ∧ Do.s = 12) ∧ (shN Dh.B 8 = T ∧ Dh.s = 12)))
section
variable {w0 : World} {sv : Value} {sts : List ByteArray} {T : ByteArray} {bl go gf gh : Nat} {i : Nat} {w : World}
theorem Rl.take (h : Rl w0 sv sts T bl go gf gh i w) (hi : i < 2) : ∃ bx gx gx1 cx1 gx2 cx2 XX, w.cell? ⟨bl, i, none⟩ = some (.pointer (some ⟨gx, 0, none⟩)) ∧ Hid (DiskAt w bx gx gx1 cx1 gx2 cx2 (.slice none 0 0) (freshD 12 XX)) ∧ Hid (Rec T XX) ∧ Hid (bx ≤ w.heap.size) ∧
    Hid (∀ ev' D' w', Hid (Tw w bx gx gx1 cx1 gx2 cx2 T 2 ev' D' w') → Rl w0 sv sts T bl go gf gh (i + 1) w') := by
  obtain ⟨bo, go1, co1, go2, co2, bf, gf1, cf1, gf2, cf2, bh, gh1, ch1, gh2, ch2, ev1, D1, evo, Do, evh, Dh, F, hf, hc⟩ := h
  obtain ⟨a11, a12, a13⟩ := F.a1
  obtain ⟨a21, a22, a23⟩ := F.a2
  have a3 := F.a3
  have a4 := F.a4
  have a5 := F.a5
  have a6 := F.a6
  have f1 := F.f.ge
  have f2 := (ownsRow_slice F.f.first).1
  have f3 := (ownsRow_slice F.f.now).1
  have k1 := F.h.ge
  have k2 := (ownsRow_slice F.h.first).1
  have k3 := (ownsRow_slice F.h.now).1
  rcases hc with ⟨rfl, rfl, rfl, X, Xh, rfl, rfl, rX, rH⟩ | ⟨rfl, ho, rfl, Xh, rfl, rH⟩ | ⟨rfl, _⟩
  · refine ⟨bo, go, go1, co1, go2, co2, X, (F.lst.cell 0).trans rfl, F.o, rX, (by show _ ≤ _; omega), fun ev' D' w' t => ?_⟩
    have t := t.out
    exact ⟨bo, go1, co1, go2, co2, bf, gf1, cf1, gf2, cf2, bh, gh1, ch1, gh2, ch2, ev1, D1, ev', D', .slice none 0 0, freshD 12 Xh, ⟨ownsRow_ro F.rs t.ro (by decide) (by decide) (by decide), t.ro.row _ _ _ F.lst (by decide) (by decide) (by decide), t.tt.disk,
      F.f.other F.o t.tt.chg rfl (by omega) (by omega) (by omega), F.h.other F.o t.tt.chg rfl (by omega) (by omega) (by omega), F.old.trans (t.bel.mono a5), F.a1, F.a2, F.a3, Nat.le_trans a4 t.bel.size, a5, a6⟩, hf, .inr (.inl ⟨rfl, ⟨t.shows (by omega), t.s12⟩, rfl, Xh, rfl, rH⟩)⟩
  · refine ⟨bh, gh, gh1, ch1, gh2, ch2, Xh, (F.lst.cell 1).trans rfl, F.h, rH, (by show _ ≤ _; omega), fun ev' D' w' t => ?_⟩
    have t := t.out
    exact ⟨bo, go1, co1, go2, co2, bf, gf1, cf1, gf2, cf2, bh, gh1, ch1, gh2, ch2, ev1, D1, evo, Do, ev', D', ⟨ownsRow_ro F.rs t.ro (by decide) (by decide) (by decide), t.ro.row _ _ _ F.lst (by decide) (by decide) (by decide), F.o.other F.h t.tt.chg rfl (by omega) (by omega) (by omega),
      F.f.other F.h t.tt.chg rfl (by omega) (by omega) (by omega), t.tt.disk, F.old.trans (t.bel.mono (by omega)), F.a1, F.a2, F.a3, Nat.le_trans a4 t.bel.size, a5, a6⟩, hf, .inr (.inr ⟨rfl, ho, ⟨t.shows (by omega), t.s12⟩⟩)⟩
  · omega
/-- At the end all three show the same. -/
structure En (w0 : World) (sv : Value) (sts : List ByteArray) (T : ByteArray) (go gf gh : Nat) (w : World) : Prop where
  rs : w.ownsRow w0.heap.size 9 1 sv sts.length (sts.map Value.string)
  old : Below w0.heap.size w0 w
  o : ∃ b g1 c1 g2 c2 ev D, DiskAt w b go g1 c1 g2 c2 ev D ∧ D.s = 12 ∧ shN D.B 8 = T
  f : ∃ b g1 c1 g2 c2 ev D, DiskAt w b gf g1 c1 g2 c2 ev D ∧ D.s = 12 ∧ shN D.B 8 = T
  h : ∃ b g1 c1 g2 c2 ev D, DiskAt w b gh g1 c1 g2 c2 ev D ∧ D.s = 12 ∧ shN D.B 8 = T
theorem Rl.end' (h : Rl w0 sv sts T bl go gf gh 2 w) : En w0 sv sts T go gf gh w := by
  obtain ⟨bo, go1, co1, go2, co2, bf, gf1, cf1, gf2, cf2, bh, gh1, ch1, gh2, ch2, ev1, D1, evo, Do, evh, Dh, F, hf, hc⟩ := h
  rcases hc with ⟨h, _⟩ | ⟨h, _⟩ | ⟨_, ho, hh⟩
  · omega
  · omega
  · exact ⟨F.rs, F.old, ⟨_, _, _, _, _, _, _, F.o, ho.2, ho.1⟩, ⟨_, _, _, _, _, _, _, F.f, hf.2, hf.1⟩, ⟨_, _, _, _, _, _, _, F.h, hh.2, hh.1⟩⟩
theorem En.next {w' : World} (h : En w0 sv sts T go gf gh w) (hb : Below w.heap.size w w') : En w0 sv sts T go gf gh w' := by
  obtain ⟨b1, x1, x2, x3, x4, x5, x6, o1, o2, o3⟩ := h.o
  obtain ⟨b2, y1, y2, y3, y4, y5, y6, f1, f2, f3⟩ := h.f
  obtain ⟨b3, z1, z2, z3, z4, z5, z6, h1, h2, h3⟩ := h.h
  exact ⟨own_below h.rs hb, h.old.trans (hb.mono h.old.size), ⟨_, _, _, _, _, _, _, o1.below hb (Nat.le_refl _), o2, o3⟩, ⟨_, _, _, _, _, _, _, f1.below hb (Nat.le_refl _), f2, f3⟩, ⟨_, _, _, _, _, _, _, h1.below hb (Nat.le_refl _), h2, h3⟩⟩
theorem En.shown (h : En w0 sv sts T go gf gh w) (x : Nat) (hx : x = go ∨ x = gf ∨ x = gh) : Calls Try.prog 25 #[.pointer (some ⟨x, 0, none⟩)] w fun e w' => e = .returned (.string T) ∧ Hid (En w0 sv sts T go gf gh w') := by
  have : ∃ b g1 c1 g2 c2 ev D, DiskAt w b x g1 c1 g2 c2 ev D ∧ D.s = 12 ∧ shN D.B 8 = T := by
    rcases hx with rfl | rfl | rfl
    · exact h.o
    · exact h.f
    · exact h.h
  obtain ⟨_, _, _, _, _, _, D, d1, d2, d3⟩ := this
  exact (shown_ok d1 d2).mono fun _ _ ⟨he, hb⟩ => ⟨by rw [he, d3], h.next hb⟩
end
end Go.Proofs.Ytlbapnecmhlgmaa
namespace Go.Proofs.Ytlbapnecmhlgmaa
open Go.RowKit

theorem now_write {D : Dk} (h : D.B = redoAll D.F D.ev D.E.length) (n : Nat) (f : Nat → Int) : (D.write n f).B = redoAll (D.write n f).F (D.write n f).ev (D.write n f).E.length := (Hist.write ⟨h, rfl⟩ n f).now
theorem now_flush {D : Dk} (h : D.B = redoAll D.F D.ev D.E.length) : D.flush.B = redoAll D.flush.F D.flush.ev D.flush.E.length := (Hist.flush ⟨h, rfl⟩).now
theorem now_wrN {D : Dk} (h : D.B = redoAll D.F D.ev D.E.length) (at' : Nat) (L : List Pt) (K : List Nat) : ∀ n, (wrN D at' L K n).B = redoAll (wrN D at' L K n).F (wrN D at' L K n).ev (wrN D at' L K n).E.length
  | 0 => h
  | n + 1 => now_write (now_wrN h at' L K n) _ _
theorem now_doN {D : Dk} (h : D.B = redoAll D.F D.ev D.E.length) (at' : Nat) (K : List Nat) : ∀ n, (doN D at' K n).B = redoAll (doN D at' K n).F (doN D at' K n).ev (doN D at' K n).E.length
  | 0 => h
  | n + 1 => now_write (now_doN h at' K n) _ _
theorem now_com {D : Dk} (h : D.B = redoAll D.F D.ev D.E.length) (at' : Nat) (L : List Pt) (K : List Nat) : (comD D at' L K).B = redoAll D.F (comD D at' L K).ev (comD D at' L K).E.length := by
  have h1 : (hdD D at' L K).B = redoAll (hdD D at' L K).F (hdD D at' L K).ev (hdD D at' L K).E.length := now_flush (now_write (now_flush (now_wrN h at' L K _)) _ _)
  have h2 : (comD D at' L K).B = redoAll (comD D at' L K).F (comD D at' L K).ev (comD D at' L K).E.length := now_flush (now_write (now_flush (now_doN h1 at' K _)) _ _)
  rwa [comD_F] at h2
theorem nums_of {L : List Pt} {K : List Nat} {J : Jn} (hK : KeysOf L K) (hL : L = J.L) (hok : J.ok 12) (h0 : J.at' = 0) (h4 : J.sec = 4) (hne : K ≠ []) : Nums K := by
  subst hL
  have hl := hK.len
  have hf := hok.few
  refine ⟨List.length_pos_iff.2 hne, by omega, fun i j hij hj => ?_, fun i hi => ?_⟩
  · have := List.pairwise_iff_getElem.1 hK.up i j (by omega) hj hij
    rwa [List.getD_eq_getElem?_getD, List.getD_eq_getElem?_getD, List.getElem?_eq_getElem hj, List.getElem?_eq_getElem (show i < K.length by omega)]
  · have hm : K.getD i 0 ∈ J.L.map Pt.k := (hK.mem _).1 (by simp [List.getD, List.getElem?_eq_getElem hi])
    obtain ⟨p, hp, e⟩ := List.mem_map.1 hm
    rw [← e]
    have := hok.puts p hp
    have h1 := this.1
    have h2 := this.2.1
    omega
section
variable {w0 : World} {g g1 c1 g2 c2 gj gm : Nat} {ev : Value} {D : Dk} {J : Jn} {sts : List ByteArray} {ends : List Nat} {sv xv : Value} {w w' : World}
theorem own_one {n s base : Nat} {e : TypeId} {v : Value} {xs : List Value} {L : List Pt} (h : w.ownsRow base e s v n xs) (hm : MapAt w gm L) (hO : One gm w w') : w'.ownsRow base e s v n xs :=
  ownsRow_keep h (fun k hk _ => by
    obtain ⟨_, _, cur, hr⟩ := ownsRow_lt h k hk
    exact hO.block k (hm.row_ne hr).symm)
theorem Wr.put (h : Wr w0 g g1 c1 g2 c2 gj gm ev D J sts ends sv xv w) {L' : List Pt} {w1 : World} (hJ6 : JAt w' w0.heap.size gj gm g { J with L := L' }) (hok6 : ({ J with L := L' } : Jn).ok D.s) (hb : Below w.heap.size w w1) (hJ1 : JAt w1 w0.heap.size gj gm g J) (hO : One gm w1 w') :
    Wr w0 g g1 c1 g2 c2 gj gm ev D { J with L := L' } sts ends sv xv w' := by
  have h1 := h.next hb
  exact ⟨⟨h1.sh.disk.one hJ1.map hO, hJ6, hok6, h.sh.s12, h.sh.at0, h.sh.sec4, h1.sh.old.trans (hO.below hJ1.geM)⟩, own_one h1.rs hJ1.map hO, own_one h1.re hJ1.map hO⟩
theorem Wr.com (h : Wr w0 g g1 c1 g2 c2 gj gm ev D J sts ends sv xv w) {K : List Nat} {ev' : Value} (hD : DiskAt w' w0.heap.size g g1 c1 g2 c2 ev' (comD D J.at' J.L K)) (hJ : JAt w' w0.heap.size gj gm g { J with L := [] }) (hB : Below w0.heap.size w w') (hR : Ro w w') :
    Wr w0 g g1 c1 g2 c2 gj gm ev' (comD D 0 J.L K) { J with L := [] } sts ends sv xv w' := by
  have h0 := h.sh.at0
  rw [h0] at hD
  exact ⟨⟨hD, hJ, ⟨h.sh.ok.lo, h.sh.ok.hi, by rw [comD_s]; exact h.sh.ok.fits, Nat.zero_le _, fun _ h => nomatch h⟩, by rw [comD_s]; exact h.sh.s12, h.sh.at0, h.sh.sec4, h.sh.old.trans hB⟩, ownsRow_ro h.rs hR (by decide) (by decide) (by decide), ownsRow_ro h.re hR (by decide) (by decide) (by decide)⟩
/-- Commit, and what it does to the history. -/
theorem Wr.commit (h : Wr w0 g g1 c1 g2 c2 gj gm ev D J sts ends sv xv w) (hs : Hs D sts ends) (hlen : D.E.length ≤ 400000) :
    Calls Try.prog 15 #[.pointer (some ⟨gj, 0, none⟩)] w fun e w' => e = .returned (.int .i64 0) ∧ ∃ ev' D' J', Hid (Wr w0 g g1 c1 g2 c2 gj gm ev' D' J' sts ends sv xv w') ∧ Hid (D'.E.length ≤ D.E.length + 12) ∧ Hid (Hs D' (sts ++ [shN D'.B 8]) (ends ++ [D'.E.length])) := by
  have hf := h.sh.few
  refine (commit_ro h.sh.disk h.sh.old.size hlen h.sh.jn h.sh.ok (by omega)).mono ?_
  rintro e w' ⟨rfl, K, hK, ⟨rfl, hb⟩ | ⟨hne, ev', hD', hJ', hB', hR'⟩⟩
  · exact ⟨rfl, ev, D, J, h.next hb, (by show _ ≤ _; omega), hs.same⟩
  · have h12 := h.sh.s12
    have hok12 := h.sh.ok
    rw [h12] at hok12
    have hN : Nums K := nums_of hK rfl hok12 h.sh.at0 h.sh.sec4 hne
    have hW := h.com hD' hJ' hB' hR'
    refine ⟨rfl, ev', comD D 0 J.L K, _, hW, ?_, hs.commit J.L K hN ?_ (now_com hs.now 0 J.L K) (comD_F D 0 J.L K)⟩
    · show _ ≤ _
      rw [comD_len]
      have := hN.hi
      omega
    · have := hW.sh.disk.ok.E
      rw [hW.sh.s12] at this
      exact this
end
theorem mod_spec (m : Nat) (z : Int) : ∃ (q : Int) (p : Nat), z.tmod ((m : Int) + 1) = q ∧ -((m : Int) + 1) < q ∧ q < (m : Int) + 1 ∧ (q + m + 1).tmod ((m : Int) + 1) = (p : Int) ∧ p ≤ m := by
  have hl : (0 : Int) < (m : Int) + 1 := by omega
  have h1 : -((m : Int) + 1) < z.tmod ((m : Int) + 1) := by
    have := Int.lt_tmod_of_pos z hl
    omega
  have h2 : z.tmod ((m : Int) + 1) < (m : Int) + 1 := Int.tmod_lt_of_pos z hl
  have h3 : (0 : Int) ≤ z.tmod ((m : Int) + 1) + m + 1 := by omega
  have h4 : (z.tmod ((m : Int) + 1) + m + 1).tmod ((m : Int) + 1) = (z.tmod ((m : Int) + 1) + m + 1) % ((m : Int) + 1) := Int.tmod_eq_emod_of_nonneg h3
  have h5 := Int.emod_nonneg (z.tmod ((m : Int) + 1) + m + 1) (show (m : Int) + 1 ≠ 0 by omega)
  have h6 := Int.emod_lt_of_pos (z.tmod ((m : Int) + 1) + m + 1) hl
  exact ⟨_, ((z.tmod ((m : Int) + 1) + m + 1) % ((m : Int) + 1)).toNat, rfl, h1, h2, by rw [h4]; omega, by omega⟩
theorem own_sl {w : World} {base n s : Nat} {e : TypeId} {v : Value} {xs : List Value} (h : w.ownsRow base e s v n xs) (hn : 0 < n) : ∃ g c cur, v = .slice (some ⟨g, 0, none⟩) n c ∧ Row w g cur e ∧ base ≤ g := by
  obtain ⟨_, ⟨h1, h2⟩ | ⟨g, c, cur, h1, h2, h3, _⟩⟩ := h
  · omega
  · exact ⟨g, c, cur, h1, h3, h2⟩
end Go.Proofs.Ytlbapnecmhlgmaa
namespace Go.Proofs.Ytlbapnecmhlgmaa
open Go.RowKit

theorem Try.info4 : (Try.prog.info? 4).map (fun i => (i.zero, i.size, i.bytes)) = some (some (.bool false), 1, 1) := by kernel_rfl
/-- n bools as cells. -/
def bls (f : Nat → Bool) (n : Nat) : List Value := (List.range n).map fun i => Value.bool (f i)
theorem bls_at (f : Nat → Bool) (n i : Nat) (h : i < n) : (bls f n)[i]? = some (.bool (f i)) := by simp [bls, h]
theorem bls_one (f : Nat → Bool) (n : Nat) : ∀ u ∈ bls f n, u.oneCell' = true := by
  intro u hu
  simp only [bls, List.mem_map] at hu
  obtain ⟨i, _, rfl⟩ := hu
  rfl
theorem own_empty (w : World) (e : TypeId) : (w.alloc (.cells #[] e)).ownsRow w.heap.size e 1 (.slice (some ⟨w.heap.size, 0, none⟩) 0 0) 0 [] := by
  have h := World.ownsRow_lit (base := w.heap.size) (e := e) (size := 1) w #[] 0 (by simp) (by decide) rfl
  simpa using h
/-- 'append([]bool{}, xs...)', as an operation alone. -/
theorem wp_append_bools {w : World} {o : Oper} {a : Act} {K : Act → World → Prop} {Q : Exit → Act → World → Prop} (s x : Operand)
    (ho : o.op = .call { callee := .builtin .append, args := #[s, x], argTypes := #[41, 41] }) (W : World) (hW : w = W.alloc (.cells #[] 4)) (hs : a.eval s = .slice (some ⟨W.heap.size, 0, none⟩) 0 0)
    (ka : Option Addr) (b off len cap : Nat) (f : Nat → Bool) (hx : a.eval x = .slice ka len cap) (hB : Bl W ka b off len f) (hnone : ka = none → len = 0 ∧ cap = 0) (hl : len ≤ 140737488351232)
    (h : ∀ k' b' c' w', Below W.heap.size W w' → Bl w' k' b' 0 len f → K (a.put o.dst (.slice k' len c')) w') : o.wp Try.prog a w K Q := by
  obtain ⟨i0, hi, hz0, hz1, hz2⟩ := info_parts Try.info4
  subst hW
  have hown := own_empty W 4
  have hb0 : Below W.heap.size W (W.alloc (.cells #[] 4)) := (Below.refl _ _).alloc (Nat.le_refl _) _
  have hB' := hB.belowAll hb0
  cases ka with
  | none =>
    obtain ⟨rfl, rfl⟩ := hnone rfl
    have hrun := run_append_owned_none (P := Try.prog) (w := W.alloc (.cells #[] 4)) W.heap.size 41 o.type 4 i0 1 Try.underlying41 hi _ 0 [] hown
    unfold Oper.wp
    simp [execOp, ho, resolve, invoke, builtin, hs, hx, hrun, Result.andThen, Oper.upon]
    exact h _ 0 _ _ hb0 ⟨fun h => absurd h (by omega), fun i hi => absurd hi (by omega)⟩
  | some ad =>
    refine wp_append_evs s x 41 ho W.heap.size 4 i0 (.bool false) 1 1 Try.underlying41 hi hz0 hz1 hz2 rfl (by decide) _ 0 [] hs hown ad len cap (bls f len) hx (by simp [bls]) ?_ (bls_one _ _) (by unfold maxLen; omega) (by omega) (by simp) ?_
    · intro j u hj
      have hjl : j < len := by
        rcases Nat.lt_or_ge j len with h | h
        · exact h
        · rw [List.getElem?_eq_none (by simpa [bls] using h)] at hj; cases hj
      have e : ad = ⟨b, off, none⟩ := Option.some.inj (hB'.at' (by omega))
      subst e
      have hp : (⟨b, off, none⟩ : Addr).add j = ⟨b, off + j, none⟩ := by unfold Addr.add; split <;> simp_all
      rw [hp, hB'.cell j hjl]
      rw [bls_at _ _ _ hjl] at hj
      exact hj
    · intro v' w' own' grow' _
      have hb1 : Below W.heap.size W w' := own_grown hown hb0 (by simp) grow'
      rw [Nat.zero_add, List.nil_append] at own'
      have own2 := own'
      obtain ⟨_, ⟨h1, h2⟩ | ⟨g', c', cur, h1, _⟩⟩ := own'
      · subst h1
        have : len = 0 := h2
        subst this
        exact h none 0 0 w' hb1 ⟨fun h => absurd h (by omega), fun i hi => absurd hi (by omega)⟩
      · subst h1
        exact h _ g' c' w' hb1 ⟨fun _ => rfl, fun j hj => by rw [Nat.zero_add, own2.cellAt j (by omega), bls_at _ _ _ hj]⟩

theorem RefAt.ro {w w' : World} {base gr : Nat} {fv lv : Value} {R : Rk} (h : RefAt w base gr fv lv R) (hr : Ro w w') : RefAt w' base gr fv lv R :=
  h.keep fun k hk => by
    have key : ∀ C t, Row w k C t → t = 75 ∨ t = 9 ∨ t = 96 → w'.heap[k]? = w.heap[k]? := fun C t r ht =>
      (hr.row k C t r (by rcases ht with h | h | h <;> subst h <;> decide) (by rcases ht with h | h | h <;> subst h <;> decide) (by rcases ht with h | h | h <;> subst h <;> decide)).trans r.symm
    rcases hk with rfl | hk | hk
    · exact key _ _ h.row (.inl rfl)
    · obtain ⟨_, _, cur, hr⟩ := ownsRow_lt h.first k hk
      exact key _ _ hr (.inr (.inl rfl))
    · obtain ⟨_, _, cur, hr⟩ := ownsRow_lt h.evs k hk
      exact key _ _ hr (.inr (.inr rfl))
theorem QAt.ro {w w' : World} {base gq gr A sec : Nat} {lv : Value} {P : List Rv} (h : QAt w base gq gr A sec lv P) (hr : Ro w w') : QAt w' base gq gr A sec lv P :=
  h.keepT fun k C t r ht => (hr.row k C t r (by rcases ht with h | h <;> subst h <;> decide) (by rcases ht with h | h <;> subst h <;> decide) (by rcases ht with h | h <;> subst h <;> decide)).trans r.symm
theorem RJ.ro {w0 w w' : World} {base gr : Nat} {fv : Value} {D : Dk} (h : RJ w0 base gr fv D w) (hr : Ro w w') : RJ w' base gr fv D w' := by
  obtain ⟨rv, R, Fl, h1, h2, h3⟩ := h.ref
  exact ⟨⟨rv, R, Fl, h1.ro hr, h2, h3⟩, h.ok, FrR.refl _, Below.refl _ _⟩
theorem RJ.self {w0 w : World} {base gr : Nat} {fv : Value} {D : Dk} (h : RJ w0 base gr fv D w) : RJ w base gr fv D w := ⟨h.ref, h.ok, FrR.refl _, Below.refl _ _⟩
theorem RJ.base' {w : World} {base base' gr : Nat} {fv : Value} {D : Dk} (h : RJ w base gr fv D w) (hb : base' ≤ base) : RJ w base' gr fv D w := by
  obtain ⟨rv, R, Fl, h1, h2, h3⟩ := h.ref
  exact ⟨⟨rv, R, Fl, h1.base hb, h2, h3⟩, h.ok, FrR.refl _, Below.refl _ _⟩
theorem DiskAt.frR {w w' : World} {base g g1 c1 g2 c2 : Nat} {ev : Value} {D : Dk} (h : DiskAt w base g g1 c1 g2 c2 ev D) (hf : FrR w w') : DiskAt w' base g g1 c1 g2 c2 ev D :=
  h.keepT fun _ _ _ hr ht => hf.row hr (by rcases ht with h | h | h <;> subst h <;> decide) (by rcases ht with h | h | h <;> subst h <;> decide)
theorem JAt.frR {w w' : World} {base gj gm gd : Nat} {J : Jn} (h : JAt w base gj gm gd J) (hf : FrR w w') : JAt w' base gj gm gd J := by
  obtain ⟨es, clock, m1, _⟩ := h.map.ex
  exact h.keep (hf.row h.row (by decide) (by decide)) (hf.obj gm _ m1 (fun _ _ e => by cases e) (fun _ _ e => by cases e))
theorem JAt.base {w : World} {base base' gj gm gd : Nat} {J : Jn} (h : JAt w base gj gm gd J) (hb : base' ≤ base) : JAt w base' gj gm gd J := ⟨h.row, h.map, Nat.le_trans hb h.geJ, Nat.le_trans hb h.geM⟩
theorem QAt.base {w : World} {base base' gq gr A sec : Nat} {lv : Value} {P : List Rv} (h : QAt w base gq gr A sec lv P) (hb : base' ≤ base) : QAt w base' gq gr A sec lv P := ⟨h.row, ownsRow_base h.puts hb, Nat.le_trans hb h.ge⟩
theorem opened_len {D D' : Dk} {A sec : Nat} (h : opened D A sec D') (hs : sec ≤ 31) : D'.E.length ≤ D.E.length + 40 ∧ D'.s = D.s := by
  rcases h with ⟨c, s, rfl⟩ | ⟨_, rfl⟩
  · rw [doD_len, wordsL_len, doD_s]
    have := s.hi
    omega
  · omega
end Go.Proofs.Ytlbapnecmhlgmaa
