/- The walks of the document's own New, Write and Flush. -/
import Derived.Test.YtpdcmhfmicemnaaRef
namespace Go.Proofs.Ytpdcmhfmicemnaa
open Go.RowKit

theorem Try.info67 : (Try.prog.info? 67).map (fun i => (i.zero, i.size, i.bytes)) = some (some (.agg #[.int .i64 0, .string ⟨#[]⟩]), 2, 24) := by kernel_rfl

/-- Of the blocks that were there only g and v's have changed. -/
structure ChgR (g : Nat) (v : Value) (w w' : World) : Prop where
  os : w'.os = w.os
  tape : w'.tape = w.tape
  output : w'.output = w.output
  size : w.heap.size ≤ w'.heap.size
  block : ∀ k, k < w.heap.size → k ≠ g → v.ownBlock ≠ some k → w'.heap[k]? = w.heap[k]?
theorem ChgR.trans {g : Nat} {v : Value} {a b c : World} (h : ChgR g v a b) (k : ChgR g v b c) : ChgR g v a c :=
  ⟨k.os.trans h.os, k.tape.trans h.tape, k.output.trans h.output, Nat.le_trans h.size k.size, fun i hi h1 h2 => (k.block i (Nat.lt_of_lt_of_le hi h.size) h1 h2).trans (h.block i hi h1 h2)⟩
theorem ChgR.of_below {g : Nat} {v : Value} {w w' : World} (h : Below w.heap.size w w') : ChgR g v w w' := ⟨h.os, h.tape, h.output, h.size, fun k hk _ _ => h.block k hk⟩
theorem ChgR.of_grown {g : Nat} {v : Value} {w w' : World} (h : w.grownBy w' v.ownBlock) : ChgR g v w w' := ⟨h.os, h.tape, h.output, h.size, fun k hk _ h3 => h.block k hk (fun e => h3 e.symm)⟩
theorem ChgR.of_setCell {g : Nat} {v : Value} (w : World) (i : Nat) (u : Value) : ChgR g v w (w.setCell ⟨g, i, none⟩ u) := ⟨rfl, rfl, rfl, by simp [World.setCell], fun k _ h1 _ => Below.heap_setCell _ _ _ _ h1⟩

/-- One event more, laid into the disk's block. -/
theorem RefAt.more {w w2 : World} {base g : Nat} {fv lv lv' : Value} {R : Rk} (e : Rv) (h : RefAt w base g fv lv R) (hc : ChgR w.heap.size lv w w2) (hown : w2.ownsRow base 67 2 lv' (R.L.length + 1) (rvCells R.L ++ e.cells)) :
    RefAt (w2.setCell ⟨g, 1, none⟩ lv') base g fv lv' { R with L := R.L ++ [e] } := by
  have l0 := h.row.lt
  have hne : lv.ownBlock ≠ some g := fun hq => by
    obtain ⟨_, _, cur', hr⟩ := ownsRow_lt h.evs g hq
    have := hr.symm.trans h.row
    simp at this
  have k0 : w2.heap[g]? = w.heap[g]? := hc.block g l0 (by omega) hne
  have hrow : Row w2 g _ 60 := k0.trans h.row
  refine ⟨(hrow.setCell (i := 1) lv').trans (by simp), ownsRow_keep h.first (fun k hk hkl => ?_), ?_, h.ge⟩
  · obtain ⟨_, _, cur, hr⟩ := ownsRow_lt h.first k hk
    have n1 : k ≠ g := fun e => by subst e; have := hr.symm.trans h.row; simp at this
    have n2 : lv.ownBlock ≠ some k := fun hq => by
      obtain ⟨_, _, cur', hr'⟩ := ownsRow_lt h.evs k hq
      have := hr'.symm.trans hr
      simp at this
    exact (Below.heap_setCell _ _ _ _ n1).trans (hc.block k hkl (by omega) n2)
  · have hh := ownsRow_keep (w' := w2.setCell ⟨g, 1, none⟩ lv') hown (fun k hk _ => by
      refine Below.heap_setCell _ _ _ _ (fun e => ?_)
      have e' : k = g := e
      subst e'
      obtain ⟨_, _, cur', hr⟩ := ownsRow_lt hown k hk
      have := hr.symm.trans hrow
      simp at this)
    rw [rvCells_snoc]
    simpa using hh

/-- 'append(lv, e)', e laid in the block that was made last. -/
theorem wpList_event {ops : Array Oper} {rest : List Oper} {o : Oper} {a : Act} {w : World} {Q : Exit → Act → World → Prop} (hgd : o.guard = none) (s x : Operand) (ho : o.op = .call { callee := .builtin .append, args := #[s, x], argTypes := #[58, 58] }) (base : Nat) (v : Value) (L : List Rv) (e : Rv)
    (W : World) (hw : w = W.alloc (.cells #[.int .i64 e.n, .string e.t] 67)) (hs : a.eval s = v) (hown : Hid (W.ownsRow base 67 2 v L.length (rvCells L))) (hx : a.eval x = .slice (some ⟨W.heap.size, 0, none⟩) 1 1) (hn : L.length ≤ 1000000) (hbase : base ≤ W.heap.size)
    (h : ∀ v' w', Hid (w'.ownsRow base 67 2 v' (L.length + 1) (rvCells L ++ e.cells)) → ChgR W.heap.size v W w' → wpList Try.prog ops Q rest (a.put o.dst v') w') : wpList Try.prog ops Q (o :: rest) a w := by
  subst hw
  obtain ⟨i0, hi, hz0, hz1, hz2⟩ := info_parts Try.info67
  have own' : (W.alloc (.cells #[.int .i64 e.n, .string e.t] 67)).ownsRow base 67 2 v L.length (rvCells L) := World.ownsRow.alloc (show W.ownsRow base 67 2 v L.length _ from hown) _
  refine wpList_append_own_wide _ hgd s x 58 ho base 67 i0 _ 2 24 Try.underlying58 hi hz0 hz1 hz2 rfl (by decide) v L.length _ hs own' _ 1 1 e.cells hx rfl (fun j u hj => ?_) (fun u hu => by simp [Rv.cells] at hu; rcases hu with rfl | rfl <;> rfl) (by unfold maxLen; omega) (by omega) (by simp; omega)
    (fun v' w' h1 h2 _ => h v' w' h1 ((ChgR.of_below ((Below.refl _ _).alloc (Nat.le_refl _) _)).trans (ChgR.of_grown h2)))
  rw [Addr.add_mid, Nat.zero_add, (Row.new W #[.int .i64 e.n, .string e.t] 67).cell j]
  simpa [Rv.cells] using hj

set_option maxRecDepth 20000 in
set_option maxHeartbeats 2000000 in
theorem refFlush_ok {w : World} {base g : Nat} {fv lv : Value} {R : Rk} (h : RefAt w base g fv lv R) (hbase : base ≤ w.heap.size) (hL : R.L.length ≤ 1000000) :
    Calls Try.prog 14 #[.pointer (some ⟨g, 0, none⟩)] w fun e w' => (∃ v, e = .returned v) ∧ ∃ lv', RefAt w' base g fv lv' { R with L := R.L ++ [⟨-1, ⟨#[]⟩⟩] } ∧ ChgR g lv w w' := by
  have c1 := (h.row.cell 1).trans (rfl : _ = some lv)
  have HR : Hid _ := h
  have HE : Hid _ := h.evs
  have hrow := h.row
  clear h
  go_enter Try.func14, Try.ntmps14
  go_wp2_with (at_builtin; refine wpList_event rfl _ _ rfl base lv R.L ⟨-1, ⟨#[]⟩⟩ _ rfl rfl HE rfl hL hbase ?_)
  intro lv' w2 own2 hc2
  have hfin := HR.out.more ⟨-1, ⟨#[]⟩⟩ hc2 own2.out
  have hne : lv.ownBlock ≠ some g := fun hq => by
    obtain ⟨_, _, cur', hr⟩ := ownsRow_lt HE.out g hq
    have := hr.symm.trans hrow
    simp at this
  have hR2 : Row w2 g #[fv, lv] 60 := (hc2.block g hrow.lt (by have := hrow.lt; omega) hne).trans hrow
  have hcg : ChgR g lv w w2 := ⟨hc2.os, hc2.tape, hc2.output, hc2.size, fun k hk h1 h2 => hc2.block k hk (by omega) h2⟩
  obtain ⟨x, c, rfl, _⟩ := own_slice own2.out
  have d1 := (hR2.cell 1).trans (rfl : _ = some lv)
  have f1 := hR2.frozen 1
  have HF : Hid _ := hfin
  clear hfin own2 hc2 hne hR2 hrow
  go_wp2
  go_end0
  exact ⟨⟨_, rfl⟩, _, HF.out, hcg.trans (ChgR.of_setCell _ _ _)⟩
end Go.Proofs.Ytpdcmhfmicemnaa
