/- The walks of Flush and Write. -/
import Derived.Test.YtdbnnljlbfjobaaGreatDoorEvent
namespace Go.Proofs.YtdbnnljlbfjobaaGreatDoor
open Go.RowKit

/-- Of the blocks that were there only g, g2 and the events' have changed. -/
structure Chg (g g2 : Nat) (ev : Value) (w w' : World) : Prop where
  os : w'.os = w.os
  tape : w'.tape = w.tape
  output : w'.output = w.output
  size : w.heap.size ≤ w'.heap.size
  block : ∀ k, k < w.heap.size → k ≠ g → k ≠ g2 → ev.ownBlock ≠ some k → w'.heap[k]? = w.heap[k]?
theorem Chg.refl (g g2 : Nat) (ev : Value) (w : World) : Chg g g2 ev w w := ⟨rfl, rfl, rfl, Nat.le_refl _, fun _ _ _ _ _ => rfl⟩
theorem Chg.trans {g g2 : Nat} {ev : Value} {a b c : World} (h : Chg g g2 ev a b) (k : Chg g g2 ev b c) : Chg g g2 ev a c :=
  ⟨k.os.trans h.os, k.tape.trans h.tape, k.output.trans h.output, Nat.le_trans h.size k.size, fun i hi h1 h2 h3 => (k.block i (Nat.lt_of_lt_of_le hi h.size) h1 h2 h3).trans (h.block i hi h1 h2 h3)⟩
theorem Chg.of_below {g g2 : Nat} {ev : Value} {w w' : World} (h : Below w.heap.size w w') : Chg g g2 ev w w' := ⟨h.os, h.tape, h.output, h.size, fun k hk _ _ _ => h.block k hk⟩
theorem Chg.of_grown {g g2 : Nat} {ev : Value} {w w' : World} (h : w.grownBy w' ev.ownBlock) : Chg g g2 ev w w' := ⟨h.os, h.tape, h.output, h.size, fun k hk _ _ h3 => h.block k hk (fun e => h3 e.symm)⟩
theorem Chg.of_setCell {g g2 : Nat} {ev : Value} (w : World) (i : Nat) (v : Value) : Chg g g2 ev w (w.setCell ⟨g, i, none⟩ v) := ⟨rfl, rfl, rfl, by simp [World.setCell], fun k _ h1 _ _ => Below.heap_setCell _ _ _ _ h1⟩
theorem Chg.of_setRow {g g2 : Nat} {ev : Value} (w : World) (C : Array Value) : Chg g g2 ev w (w.setRow g2 C) := ⟨rfl, rfl, rfl, by simp [World.setRow], fun k _ _ h2 _ => setRow_other w g2 k C h2⟩
theorem Chg.to_below {g g2 base : Nat} {ev : Value} {w w' : World} (h : Chg g g2 ev w w') (h1 : base ≤ g) (h2 : base ≤ g2) (h3 : ∀ k, ev.ownBlock = some k → base ≤ k) (hB : base ≤ w.heap.size) : Below base w w' :=
  ⟨h.os, h.tape, h.output, h.size, fun k hk => h.block k (by omega) (by omega) (by omega) (fun e => by have := h3 k e; omega)⟩
theorem DiskAt.chg {w w' : World} {base g g1 c1 g2 c2 : Nat} {ev : Value} {D : Dk} (h : DiskAt w base g g1 c1 g2 c2 ev D) (hc : Chg g g2 ev w w') (hB : base ≤ w.heap.size) : Below base w w' :=
  hc.to_below h.ge (ownsRow_slice h.now).1 (fun k hk => (ownsRow_lt h.evs k hk).2.1) hB
theorem Row.chg {w w' : World} {g g2 k : Nat} {ev : Value} {C : Array Value} {t : TypeId} {base g1 c1 c2 : Nat} {D : Dk} (h : Row w k C t) (hD : DiskAt w base g g1 c1 g2 c2 ev D) (hc : Chg g g2 ev w w') (h45 : t ≠ 60) (h65 : t ≠ 101) (h5 : t = 5 → k ≠ g2) : Row w' k C t := by
  refine (hc.block k h.lt (fun e => ?_) (fun e => ?_) (fun e => ?_)).trans h
  · subst e
    have := hD.row.symm.trans h
    simp at this
    exact h45 this.2.symm
  · by_cases ht : t = 5
    · exact h5 ht e
    · subst e
      obtain ⟨_, _, _, _, cur, hr, _⟩ := ownsRow_slice hD.now
      have := hr.symm.trans h
      simp at this
      exact ht this.2.symm
  · obtain ⟨_, _, cur, hr⟩ := ownsRow_lt hD.evs k e
    have := hr.symm.trans h
    simp at this
    exact h65 this.2.symm

def Dk.flush (D : Dk) : Dk := { D with E := D.E ++ [flushEv] }
def over (B : Nat → Int) (n : Nat) (f : Nat → Int) (i : Nat) : Int := if n * 256 ≤ i ∧ i < n * 256 + 256 then f (i - n * 256) else B i
def Dk.write (D : Dk) (n : Nat) (f : Nat → Int) : Dk := { D with B := over D.B n f, E := D.E ++ [⟨n, f⟩] }

section
variable {P : Program} {ops : Array Oper} {S : World → Prop} {Q : Act → World → Prop} {a : Act} {w : World} {o : Oper} {i : Nat} {fs : List (Bool × Nat)}
theorem p_buildSlice (d : Option Tmp) (t : TypeId) (len : Nat) (ps : Array (Nat × Operand)) (parts : Array (Nat × Value)) (v : Value) (w' : World) (hi : ops[i]? = some o) (hd : o.dst = d) (ho : o.op = .buildSlice t len ps) (hw : Region.wanted o (yielded ops a.tmps) = true)
    (hp : (ps.map fun x => (x.1, a.eval x.2)) = parts) (hr : (Instr.buildSlice t len parts).run P w = .ok v w') (hS : fs ≠ [] → S w') (k : wpPerm P ops S Q fs (a.put d v) w') : wpPerm P ops S Q ((true, i) :: fs) a w :=
  p_alone d v w' hi hd hw (by unfold execOp; subst hp; simp only [ho, Sem.run_bind, hr, Result.andThen_ok]; rfl) hS k
theorem p_build (d : Option Tmp) (t : TypeId) (ps : Array (Nat × Operand)) (parts : Array (Nat × Value)) (C : Array Value) (hi : ops[i]? = some o) (hd : o.dst = d) (ho : o.op = .build t ps) (hw : Region.wanted o (yielded ops a.tmps) = true)
    (hp : (ps.map fun x => (x.1, a.eval x.2)) = parts) (hb : P.built t parts.toList = some C) (k : wpPerm P ops S Q fs (a.put d (.agg C)) w) : wpPerm P ops S Q ((false, i) :: fs) a w :=
  p_value d (.agg C) hi hd hw (fun w _ => by unfold execOp; subst hp; simp only [ho, Sem.run_bind, run_build (P := P) w t _ C hb, Result.andThen_ok]; rfl) k
end

/-- The events one longer, laid into the disk's block: the disk with one event more. -/
theorem DiskAt.more {w w2 : World} {base g g1 c1 g2 c2 : Nat} {ev ev' : Value} {D : Dk} (e : Ev) (hD : DiskAt w base g g1 c1 g2 c2 ev D) (he : e.ok D.s) (hc : Chg w.heap.size w.heap.size ev w w2) (hown : w2.ownsRow base 101 257 ev' (D.E.length + 1) (evCells D.E ++ e.cells)) :
    DiskAt (w2.setCell ⟨g, 2, none⟩ ev') base g g1 c1 g2 c2 ev' { D with E := D.E ++ [e] } := by
  have l0 := hD.row.lt
  have l1 := hD.lt1
  have l2 := hD.lt2
  have ty : ∀ k cur, Row w k cur 5 ∨ Row w k cur 60 → ev.ownBlock ≠ some k := fun k cur h hq => by
    obtain ⟨_, _, cur', hr⟩ := ownsRow_lt hD.evs k hq
    rcases h with h | h <;> (have := hr.symm.trans h; simp at this)
  obtain ⟨_, _, _, _, cu1, r1, _⟩ := ownsRow_slice hD.first
  obtain ⟨_, _, _, _, cu2, r2, _⟩ := ownsRow_slice hD.now
  have k0 : w2.heap[g]? = w.heap[g]? := hc.block g l0 (by omega) (by omega) (ty g _ (.inr hD.row))
  have k1 : w2.heap[g1]? = w.heap[g1]? := hc.block g1 l1 (by omega) (by omega) (ty g1 _ (.inl r1))
  have k2 : w2.heap[g2]? = w.heap[g2]? := hc.block g2 l2 (by omega) (by omega) (ty g2 _ (.inl r2))
  have hrow : Row w2 g _ 60 := k0.trans hD.row
  have n1 : g1 ≠ g := fun e => by subst e; have := r1.symm.trans hD.row; simp at this
  have n2 : g2 ≠ g := fun e => by subst e; have := r2.symm.trans hD.row; simp at this
  refine ⟨(hrow.setCell (i := 2) ev').trans (by simp), ownsRow_keep hD.first (fun k hk _ => ?_), ownsRow_keep hD.now (fun k hk _ => ?_), ?_, hD.ge, hD.ne, ⟨hD.ok.lo, hD.ok.hi, hD.ok.F, hD.ok.B, fun x hx => ?_⟩⟩
  · obtain rfl : g1 = k := by simpa [Value.ownBlock] using hk
    exact (Below.heap_setCell _ _ _ _ n1).trans k1
  · obtain rfl : g2 = k := by simpa [Value.ownBlock] using hk
    exact (Below.heap_setCell _ _ _ _ n2).trans k2
  · have h := ownsRow_keep (w' := w2.setCell ⟨g, 2, none⟩ ev') hown (fun k hk _ => by
      refine Below.heap_setCell _ _ _ _ (fun e => ?_)
      have e' : k = g := e
      subst e'
      obtain ⟨_, _, cur', hr⟩ := ownsRow_lt hown k hk
      have := hr.symm.trans hrow
      simp at this)
    rw [evCells_snoc]
    simpa using h
  · rcases List.mem_append.1 hx with h | h
    · exact hD.ok.E x h
    · simp at h
      subst h
      exact he

set_option maxRecDepth 20000 in
set_option maxHeartbeats 2000000 in
theorem flush_ok {w : World} {base g g1 c1 g2 c2 : Nat} {ev : Value} {D : Dk} (hD : DiskAt w base g g1 c1 g2 c2 ev D) (hbase : base ≤ w.heap.size) (hlen : D.E.length ≤ 1000000) :
    Calls Tryz.prog 37 #[.pointer (some ⟨g, 0, none⟩)] w fun e w' => e = .returned (.int .i64 0) ∧ ∃ ev', DiskAt w' base g g1 c1 g2 c2 ev' D.flush ∧ Chg g g2 ev w w' := by
  have H := made_yes g g2 (D.s * 256) c2 w hD.cell1 (by have := hD.ok.lo; omega)
  obtain ⟨i0, hi, hz0, hz1, hz2⟩ := info_parts info65b
  have hR := hD.row
  have hevs := hD.evs
  have HD : Hid _ := hD
  clear hD
  have hevA : evA flushEv = flushEv.cells.toArray := rfl
  obtain ⟨n, hn⟩ : ∃ n, n = D.E.length := ⟨_, rfl⟩
  rw [← hn] at hlen
  have HN : Hid _ := hn
  clear hn
  obtain ⟨R, hRr⟩ : ∃ R, R = #[Value.slice (some ⟨g1, 0, none⟩) (D.s * 256) c1, .slice (some ⟨g2, 0, none⟩) (D.s * 256) c2, ev] := ⟨_, rfl⟩
  have hR2 : R[2]? = some ev := by rw [hRr]; rfl
  rw [← hRr] at hR
  have hone : ∀ w, (Instr.buildSlice 58 1 #[(0, .agg (evA flushEv))]).run Tryz.prog w = .ok (.slice (some ⟨w.heap.size, 0, none⟩) 1 1) (w.alloc (.cells (evA flushEv) 101)) := one_event flushEv
  have HO : Hid _ := hone
  clear hone hevA hRr
  go_enter Tryz.func37, Tryz.ntmps37
  go_wp2_with fail
  refine H.mono ?_
  rintro e w' ⟨rfl, hw'⟩
  subst w'
  clear H
  go_wp2_with fail
  refine wp_region_perm [(false, 0), (false, 1), (false, 2), (false, 3), (false, 4), (true, 5), (true, 6), (true, 7), (true, 8), (true, 9), (true, 10)] (fun wx => Row wx g R 60) (by kernel_rfl) (by kernel_rfl) hR ?_
  refine p_move (some 6) _ rfl rfl rfl (by rfl) ?_
  simp only [Act.put, List.setIfInBounds_toArray, List.set_cons_zero, List.set_cons_succ]
  refine p_move (some 7) _ rfl rfl rfl (by rfl) ?_
  simp only [Act.put, List.setIfInBounds_toArray, List.set_cons_zero, List.set_cons_succ]
  refine p_value (some 8) ?_ rfl rfl (by rfl) (fun w hw => ?_) ?_
  rotate_left
  · go_simp
    with_reducible rfl
  simp only [Act.put, List.setIfInBounds_toArray, List.set_cons_zero, List.set_cons_succ]
  refine p_value (some 9) ?_ rfl rfl (by rfl) (fun w hw => ?_) ?_
  rotate_left
  · go_simp
    with_reducible rfl
  simp only [Act.put, List.setIfInBounds_toArray, List.set_cons_zero, List.set_cons_succ]
  refine p_value (some 10) ?_ rfl rfl (by rfl) (fun w hw => ?_) ?_
  rotate_left
  · have hc := (hw.cell 2).trans hR2
    go_simp
    with_reducible rfl
  simp only [Act.put, List.setIfInBounds_toArray, List.set_cons_zero, List.set_cons_succ]
  refine p_call (some 11) rfl rfl (by rfl) 83 #[] (by go_simp) ((flush_any _).mono fun e w' ⟨he, hw'⟩ => ⟨_, he, fun _ => by rw [hw']; exact hR.alloc _, ?_⟩)
  subst hw'
  simp only [Act.put, List.setIfInBounds_toArray, List.set_cons_zero, List.set_cons_succ]
  refine p_buildSlice (some 12) 58 1 _ #[(0, .agg (evA flushEv))] _ _ rfl rfl rfl (by rfl) (by simp only [List.map_toArray, List.map_cons, List.map_nil]; rfl) (HO.out _) (fun _ => (hR.alloc _).alloc _) ?_
  simp only [Act.put, List.setIfInBounds_toArray, List.set_cons_zero, List.set_cons_succ]
  have hb1 : Below w.heap.size w ((w.drew.alloc (.cells (evA flushEv) 101)).alloc (.cells (evA flushEv) 101)) := (((Below.refl _ _).drew).alloc (Nat.le_refl _) _).alloc (by simp) _
  have hev1 : ((w.drew.alloc (.cells (evA flushEv) 101)).alloc (.cells (evA flushEv) 101)).ownsRow base 101 257 ev D.E.length (evCells D.E) := ownsRow_below hevs hb1
  have hR1 : Row ((w.drew.alloc (.cells (evA flushEv) 101)).alloc (.cells (evA flushEv) 101)) g R 60 := (hR.alloc _).alloc _
  have hnew : ∀ j u, flushEv.cells[j]? = some u → ((w.drew.alloc (.cells (evA flushEv) 101)).alloc (.cells (evA flushEv) 101)).cell? ((⟨(w.drew.alloc (.cells (evA flushEv) 101)).heap.size, 0, none⟩ : Addr).add j) = some u := fun j u hj => by
    rw [Addr.add_mid, Nat.zero_add, (Row.new (w.drew.alloc (.cells (evA flushEv) 101)) (evA flushEv) 101).cell j]
    simpa [evA] using hj
  refine p_wp rfl (by rfl) ?_
  refine wp_append_own_wide _ (.tmp 10) (.tmp 12) 58 rfl base 101 i0 (.agg (evA zeroEv)) 257 264 Tryz.underlying58 hi hz0 hz1 hz2 (evA_size _) (by decide) ev D.E.length (evCells D.E) rfl hev1 _ 1 1 flushEv.cells rfl (by rw [Ev.cells_len]) hnew (Ev.cells_one _) (by rw [← HN.out]; unfold maxLen; omega) (by rw [← HN.out]; omega) (by simp; omega) ?_
  intro ev' w3 hown hgr _
  have hc3 : Chg w.heap.size w.heap.size ev w w3 := (Chg.of_below hb1).trans (Chg.of_grown hgr)
  have hg0 : g < w.heap.size := hR.lt
  have hgev : ev.ownBlock ≠ some g := fun hq => by
    obtain ⟨_, _, cur', hr⟩ := ownsRow_lt hevs g hq
    have := hr.symm.trans hR
    simp at this
  have hR3 : Row w3 g R 60 := (hc3.block g hg0 (by omega) (by omega) hgev).trans hR
  refine ⟨fun _ => hR3, ?_⟩
  show wpPerm _ _ _ _ _ (Act.put _ (some 13) ev') w3
  have hc3' : Chg g g2 ev w w3 := (Chg.of_below hb1).trans (Chg.of_grown hgr)
  have hfin := HD.out.more flushEv ⟨fun _ => ⟨by show (0 : Int) ≤ 0; omega, by show (0 : Int) < 256; omega⟩, .inl rfl⟩ hc3 hown
  have HF : Hid _ := hfin
  obtain ⟨xv, cv, hev'⟩ : ∃ x c, ev' = .slice x (D.E.length + 1) c := by
    obtain ⟨_, ⟨_, h2⟩ | ⟨g', c', cur, h1, _⟩⟩ := hown
    · omega
    · exact ⟨_, _, h1⟩
  subst hev'
  have hcell := hR3.cell 2
  have hfz := hR3.frozen 2
  rw [hR2] at hcell
  clear hfin hown hgr hc3 hev1 hnew hb1 hR1
  simp only [Act.put, List.setIfInBounds_toArray, List.set_cons_zero, List.set_cons_succ]
  refine p_alone (some 14) (.pointer (some ⟨g, 0, none⟩)) w3 rfl rfl (by rfl) (by go_simp) (fun _ => hR3) ?_
  simp only [Act.put, List.setIfInBounds_toArray, List.set_cons_zero, List.set_cons_succ]
  refine p_alone (some 15) (.pointer (some ⟨g, 2, none⟩)) w3 rfl rfl (by rfl) (by go_simp) (fun _ => hR3) ?_
  simp only [Act.put, List.setIfInBounds_toArray, List.set_cons_zero, List.set_cons_succ]
  refine p_store (w3.setCell ⟨g, 2, none⟩ (.slice xv (D.E.length + 1) cv)) rfl rfl (by rfl) (by go_simp) (fun h => absurd rfl h) ?_
  refine p_done ?_
  simp only [Exit.then]
  go_wp2
  go_ret
  exact ⟨rfl, ⟨_, HF.out⟩, hc3'.trans (Chg.of_setCell _ _ _)⟩
end Go.Proofs.YtdbnnljlbfjobaaGreatDoor
