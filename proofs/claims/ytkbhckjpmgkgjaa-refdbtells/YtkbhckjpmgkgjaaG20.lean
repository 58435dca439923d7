/- My own work: the walk of next: the least that is ready is told, and who waits for it waits no more. -/
import Derived.Test.YtkbhckjpmgkgjaaG19
namespace Go.Proofs.Ytkbhckjpmgkgjaa
open Go.RowKit

def decW (W : Nat → Nat) (f : Nat) : Nat → Nat := fun j => if j = f then W f - 1 else W j
/-- One that waited for what is told now. -/
def stepO (s : (Nat → Nat) × List Nat) (f : Nat) : (Nat → Nat) × List Nat := (decW s.1 f, if s.1 f - 1 = 0 then insAt (posR s.2 f) f s.2 else s.2)
def runO (W : Nat → Nat) (R l : List Nat) : (Nat → Nat) × List Nat := l.foldl stepO (W, R)
theorem runO_take {W : Nat → Nat} {R l : List Nat} {j f : Nat} (h : l[j]? = some f) : runO W R (l.take (j + 1)) = stepO (runO W R (l.take j)) f := by
  have hj : j < l.length := (List.getElem?_eq_some_iff.1 h).1
  have e : l.take (j + 1) = l.take j ++ [f] := by
    rw [List.take_add_one, h]
    rfl
  unfold runO
  rw [e, List.foldl_append]
  rfl
theorem ReadyAt.keep {w w' : World} {B : Nat} {v : Value} {R : List Nat} (h : ReadyAt w B v R) (hb : ∀ k, B ≤ k → k < w.heap.size → w'.heap[k]? = w.heap[k]?) : ReadyAt w' B v R := by
  obtain ⟨base, cap, e1, e2, e3, ⟨e4, e5⟩ | ⟨b, off, cur, e4, e5, e6, e7, e8⟩⟩ := h
  · exact ⟨base, cap, e1, e2, e3, .inl ⟨e4, e5⟩⟩
  · exact ⟨base, cap, e1, e2, e3, .inr ⟨b, off, cur, e4, (hb b e6 (Array.getElem?_eq_some_iff.1 e5).1).trans e5, e6, e7, e8⟩⟩
theorem ReadyAt.own {w : World} {B : Nat} {v : Value} {R : List Nat} (h : ReadyAt w B v R) : ∀ b, v.ownBlock = some b → B ≤ b ∧ b < w.heap.size := by
  obtain ⟨base, cap, rfl, e2, e3, ⟨rfl, e5⟩ | ⟨b, off, cur, rfl, e5, e6, e7, e8⟩⟩ := h
  · intro b hb; cases hb
  · intro b' hb
    cases hb
    exact ⟨e6, (Array.getElem?_eq_some_iff.1 e5).1⟩
theorem OrdAt.wait {w : World} {B B2 r q o n : Nat} {C : Nat → Value} {T : Nat → List Nat} {W : Nat → Nat} {rv : Value} {R : List Nat} (h : OrdAt w B B2 r q o n C T W rv R) (k x : Nat) :
    OrdAt (w.setCell ⟨q, k, none⟩ (.int .i64 (x : Int))) B B2 r q o n C T (fun j => if j = k then x else W j) rv R := by
  have hst : ∀ j, j ≠ q → (w.setCell ⟨q, k, none⟩ (.int .i64 (x : Int))).heap[j]? = w.heap[j]? := fun j h1 => heap_setCell_other w ⟨q, k, none⟩ j _ h1
  have hq := h.lt.1
  have hle := h.le
  refine ⟨h.rws.keepB (fun j _ hj => hst j fun e => ?_) (by simp), ?_, (hst o h.ne.2.1).trans h.ord, h.lt, h.ne, h.ready.keep fun j hj _ => hst j (by omega), h.le, h.top, by simp; exact h.size⟩
  · rcases hj with rfl | hj
    · exact h.ne.1 e.symm
    · omega
  · have h2 := h.wts.setCell (i := k) (.int .i64 (x : Int))
    have e : (intsN n W).setIfInBounds k (.int .i64 (x : Int)) = intsN n (fun j => if j = k then x else W j) := by
      unfold intsN
      rw [List.setIfInBounds_toArray]
      congr 1
      apply List.ext_getElem
      · simp
      · intro j h3 h4
        rw [List.getElem_set]
        by_cases hjk : k = j
        · subst hjk
          simp
        · simp [hjk, Ne.symm hjk]
    rw [e] at h2
    exact h2
/-- The numbers that are ready are others: their slice is stored. -/
theorem OrdAt.put {w w' : World} {B B2 r q o n : Nat} {C : Nat → Value} {T : Nat → List Nat} {W : Nat → Nat} {rv v' : Value} {R R' : List Nat} (h : OrdAt w B B2 r q o n C T W rv R) (hr : ReadyAt w' B2 v' R') (hg : w.grownBy w' rv.ownBlock) :
    OrdAt (w'.setCell ⟨o, 2, none⟩ v') B B2 r q o n C T W v' R' := by
  have hk : ∀ k, k < B2 → k < w.heap.size → w'.heap[k]? = w.heap[k]? := fun k h1 h2 => hg.block k h2 (fun e => by have := (h.ready.own k e.symm).1; omega)
  have hko : ∀ k, k ≠ o → (w'.setCell ⟨o, 2, none⟩ v').heap[k]? = w'.heap[k]? := fun k h1 => heap_setCell_other w' ⟨o, 2, none⟩ k v' h1
  have hs := hg.size
  have hle := h.le
  have hq := h.lt
  have hne := h.ne
  have hrl := h.rws.lt
  have hsz := h.size
  refine ⟨⟨?_, fun k hkn => ownsRow_keep' (h.rws.own k hkn) fun g hgo hl => ?_, h.rws.apart, hrl, by have := h.rws.le; simp; omega⟩, ?_, ?_, h.lt, h.ne, ?_, hle, h.top, by simp; omega⟩
  · exact (hko r (Ne.symm hne.2.2)).trans ((hk r (by omega) h.rws.row.lt).trans h.rws.row)
  · have h1 := h.top k hkn g hgo
    have h2 := (ownsRow_lt' (h.rws.own k hkn) g hgo).2
    exact (hko g (by omega)).trans (hk g h1 hl)
  · exact (hko q (Ne.symm hne.2.1)).trans ((hk q (by omega) h.wts.lt).trans h.wts)
  · have h1 : Row w' o #[.slice (some ⟨r, 0, none⟩) n n, .slice (some ⟨q, 0, none⟩) n n, rv] 70 := (hk o (by omega) h.ord.lt).trans h.ord
    exact h1.setCell (i := 2) v'
  · exact hr.keep fun k h1 _ => hko k (by omega)
theorem OrdAt.drew {w : World} {B B2 r q o n : Nat} {C : Nat → Value} {T : Nat → List Nat} {W : Nat → Nat} {rv : Value} {R : List Nat} (h : OrdAt w B B2 r q o n C T W rv R) (k : Nat) : OrdAt (w.drewN k) B B2 r q o n C T W rv R :=
  ⟨h.rws.keep (fun _ _ _ => rfl) (Nat.le_refl _), h.wts, h.ord, h.lt, h.ne, h.ready.keep fun _ _ _ => rfl, h.le, h.top, h.size⟩
/-- What next may change: old memory stays, and of the rest all that holds no numbers but the order itself. -/
structure Nx (K o : Nat) (w w' : World) : Prop where
  below : Below K w w'
  oth : ∀ k c t fr, w.heap[k]? = some (.cells c t fr) → t ≠ 3 → k ≠ o → w'.heap[k]? = w.heap[k]?
theorem Nx.refl (K o : Nat) (w : World) : Nx K o w w := ⟨Below.refl _ _, fun _ _ _ _ _ _ _ => rfl⟩
theorem Nx.trans {K o : Nat} {w w' w2 : World} (h : Nx K o w w') (h2 : Nx K o w' w2) : Nx K o w w2 :=
  ⟨h.below.trans h2.below, fun k c t fr h3 h4 h5 => (h2.oth k c t fr ((h.oth k c t fr h3 h4 h5).trans h3) h4 h5).trans (h.oth k c t fr h3 h4 h5)⟩
theorem Nx.setO {K o : Nat} {w : World} (hK : K ≤ o) (v : Value) : Nx K o w (w.setCell ⟨o, 2, none⟩ v) :=
  ⟨⟨rfl, rfl, rfl, by simp, fun k hk => heap_setCell_other w ⟨o, 2, none⟩ k v (by show k ≠ o; omega)⟩, fun k _ _ _ _ _ hk => heap_setCell_other w ⟨o, 2, none⟩ k v hk⟩
theorem Nx.setQ {K q o f n : Nat} {w : World} {W : Nat → Nat} (hw : Row w q (intsN n W) 3) (hK : K ≤ q) (v : Value) : Nx K o w (w.setCell ⟨q, f, none⟩ v) :=
  ⟨⟨rfl, rfl, rfl, by simp, fun k hk => heap_setCell_other w ⟨q, f, none⟩ k v (by show k ≠ q; omega)⟩, fun k c t fr h1 h2 _ => heap_setCell_other w ⟨q, f, none⟩ k v (fun e => by
    have e' : k = q := e
    have h3 : w.heap[q]? = _ := hw
    rw [e', h3] at h1
    simp only [Option.some.injEq, Obj.cells.injEq] at h1
    exact h2 h1.2.1.symm)⟩
theorem Nx.drewN {K o : Nat} (w : World) (k : Nat) : Nx K o w (w.drewN k) := ⟨⟨rfl, rfl, rfl, Nat.le_refl _, fun _ _ => rfl⟩, fun _ _ _ _ _ _ _ => rfl⟩
theorem Nx.grown {K o B : Nat} {w w' : World} {v : Value} {R : List Nat} (hr : ReadyAt w B v R) (hK : K ≤ B) (hs : K ≤ w.heap.size) (hg : w.grownBy w' v.ownBlock) : Nx K o w w' :=
  ⟨⟨hg.os, hg.tape, hg.output, hg.size, fun k hk => hg.block k (by omega) (fun e => by have := (hr.own k e.symm).1; omega)⟩, fun k c t fr h1 h2 _ => hg.block k (Array.getElem?_eq_some_iff.1 h1).1 (fun e => by
    obtain ⟨base, cap, rfl, e2, e3, ⟨rfl, e5⟩ | ⟨b, off, cur, rfl, e5, e6, e7, e8⟩⟩ := hr
    · cases e
    · cases e
      rw [e5] at h1
      simp only [Option.some.injEq, Obj.cells.injEq] at h1
      exact h2 h1.2.1.symm)⟩
/-- What next tells. -/
def NextPost (w : World) (K B B2 r q o n : Nat) (C : Nat → Value) (T : Nat → List Nat) (W : Nat → Nat) (n0 : Nat) (R : List Nat) (e : Ending) (w' : World) : Prop :=
  e = .returned (.int .i64 (n0 : Int)) ∧ (∃ rv', OrdAt w' B B2 r q o n C T (runO W R (T n0)).1 rv' (runO W R (T n0)).2) ∧ Nx K o w w'
set_option maxRecDepth 20000 in
set_option maxHeartbeats 8000000 in
theorem next_ok (w : World) (K B B2 r q o n : Nat) (C : Nat → Value) (T : Nat → List Nat) (W : Nat → Nat) (rv : Value) (n0 : Nat) (R : List Nat) (h : OrdAt w B B2 r q o n C T W rv (n0 :: R)) (hK : K ≤ q ∧ K ≤ o ∧ K ≤ B2) (hn0 : n0 < n) (hT : ∀ f ∈ T n0, f < n) (hTl : (T n0).length ≤ 16777216) (hRl : R.length ≤ 4096)
    (hpre : ∀ j f, (T n0)[j]? = some f → (1 ≤ (runO W R ((T n0).take j)).1 f ∧ (runO W R ((T n0).take j)).1 f ≤ 16777216) ∧ (runO W R ((T n0).take j)).2.Pairwise (· ≤ ·) ∧ (runO W R ((T n0).take j)).2.length ≤ 4096) :
    Calls Try.prog 39 #[.pointer (some ⟨o, 0, none⟩)] w (NextPost w K B B2 r q o n C T W n0 R) := by
  have hR1 := h.ready
  obtain ⟨base, cap, rfl, hc1, hc2, ⟨rfl, hc3⟩ | ⟨b, off, cur, rfl, hb, hBb, hoc, hce⟩⟩ := hR1
  · simp at hc1; omega
  have hlen : (n0 :: R).length = R.length + 1 := rfl
  rw [hlen] at hc1 h
  have q2 : w.cell? ⟨o, 2, none⟩ = some (.slice (some ⟨b, off, none⟩) (R.length + 1) cap) := (h.ord.cell 2).trans rfl
  have f2 := h.ord.frozen 2
  have qn : w.cell? ⟨b, off, none⟩ = some (.int .i64 (n0 : Int)) := (Row.cell (w := w) hb off).trans (hce 0 n0 rfl)
  have hpos : (0 : Int) < ((R.length + 1 : Nat) : Int) := by omega
  have hpos1 : (1 : Int) ≤ ((R.length + 1 : Nat) : Int) := by omega
  have hKq := hK.1
  have hKo := hK.2.1
  have hKB := hK.2.2
  have hR2 : ∀ w', w.grownBy w' none → ReadyAt w' B2 (.slice (if cap = 1 then some ⟨b, off, none⟩ else some ⟨b, off + 1, none⟩) R.length (cap - 1)) R := fun w' hg => by
    have hbl : b < w.heap.size := (Array.getElem?_eq_some_iff.1 hb).1
    refine ⟨_, cap - 1, rfl, by omega, by omega, .inr ?_⟩
    by_cases hc : cap = 1
    · have h0 : R = [] := List.length_eq_zero_iff.1 (by omega)
      subst h0
      exact ⟨b, off, cur, by rw [if_pos hc], (hg.block b hbl (by simp)).trans hb, hBb, by omega, fun j x hj => by simp at hj⟩
    · exact ⟨b, off + 1, cur, by rw [if_neg hc], (hg.block b hbl (by simp)).trans hb, hBb, by omega, fun j x hj => by rw [show off + 1 + j = off + (j + 1) by omega]; exact hce (j + 1) x hj⟩
  have HPut : Hid (OrdAt (w.setCell ⟨o, 2, none⟩ (.slice (if cap = 1 then some ⟨b, off, none⟩ else some ⟨b, off + 1, none⟩) R.length (cap - 1))) B B2 r q o n C T W (.slice (if cap = 1 then some ⟨b, off, none⟩ else some ⟨b, off + 1, none⟩) R.length (cap - 1)) R) := h.put (hR2 w ⟨rfl, rfl, rfl, Nat.le_refl _, fun _ _ _ => rfl⟩) ⟨rfl, rfl, rfl, Nat.le_refl _, fun _ _ _ => rfl⟩
  have HB1 : Hid (∀ v, Nx K o w (w.setCell ⟨o, 2, none⟩ v)) := fun v => Nx.setO hKo v
  clear h hb hce hoc hR2 hc1 hc2
  go_enter Try.func39, Try.ntmps39
  go_upto_region 2 with fail
  go_cut [3] (fun v3 wx => v3 = .int .i64 (n0 : Int) ∧ (∃ rv1, Hid (OrdAt wx B B2 r q o n C T W rv1 R)) ∧ Hid (Nx K o w wx))
  case first =>
    by_cases hc : cap = 1
    · have hcc : cap - 1 = 0 := by omega
      rw [if_pos hc, hcc] at HPut
      go_wp2
      go_meet
      exact ⟨rfl, ⟨_, HPut⟩, HB1.out _⟩
    · rw [if_neg hc] at HPut
      go_wp2
      go_meet
      exact ⟨rfl, ⟨_, HPut⟩, HB1.out _⟩
  case rest =>
    obtain ⟨rfl, ⟨rv1, HO⟩, HB⟩ := hcut
    have hO := HO.out
    have q0 : wc.cell? ⟨o, 0, none⟩ = some (.slice (some ⟨r, 0, none⟩) n n) := (hO.ord.cell 0).trans rfl
    have hCo := hO.rws.own n0 hn0
    obtain ⟨nt, hnt⟩ : ∃ x, x = (T n0).length := ⟨_, rfl⟩
    rw [← hnt] at hCo hTl
    obtain ⟨ta, tc, hC⟩ := own_slice hCo
    have qr : wc.cell? ⟨r, n0, none⟩ = some (.slice ta nt tc) := by rw [← hC]; exact hO.rws.cell hn0
    have hn0' : (n0 : Int) < (n : Int) := by omega
    have HC : Hid _ := hC
    have HNt : Hid _ := hnt
    have HP : Hid _ := hpre
    have HTn : Hid _ := hT
    clear hO hCo hC hnt hpre hT q2 f2 qn hpos hpos1 HPut HB1
    go_upto_region 3 with fail
    go_wp2
    clear q0 qr
    go_loopw [30] (fun iv wr => ∃ (j : Nat) (rvj : Value), iv = .int .i64 j ∧ j ≤ nt ∧ OrdAt wr B B2 r q o n C T (runO W R ((T n0).take j)).1 rvj (runO W R ((T n0).take j)).2 ∧ Nx K o w wr) (fun iv _ => nt - (intOf iv).toNat)
    case atStart => exact ⟨0, rv1, rfl, Nat.zero_le _, HO.out, HB.out⟩
    case round =>
      obtain ⟨j, rvj, rfl, hj, hG, hBw⟩ := hrel
      by_cases hjn : j < nt
      · have hjl : j < (T n0).length := by have := HNt.out; omega
        obtain ⟨f, hf⟩ : ∃ f, f = (T n0)[j] := ⟨_, rfl⟩
        have hfe : (T n0)[j]? = some f := by rw [hf]; exact List.getElem?_eq_getElem hjl
        have hfn : f < n := HTn.out f (by rw [hf]; exact List.getElem_mem _)
        have hst : runO W R ((T n0).take (j + 1)) = stepO (runO W R ((T n0).take j)) f := runO_take hfe
        obtain ⟨⟨hp1, hp2⟩, hp3, hp4⟩ := HP.out j f hfe
        obtain ⟨Wj, hWj⟩ : ∃ x, x = (runO W R ((T n0).take j)).1 := ⟨_, rfl⟩
        obtain ⟨Rj, hRj⟩ : ∃ x, x = (runO W R ((T n0).take j)).2 := ⟨_, rfl⟩
        rw [← hWj] at hp1 hp2 hG
        rw [← hRj] at hp3 hp4 hG
        obtain ⟨y, hy⟩ : ∃ y, Wj f = y + 1 := ⟨Wj f - 1, by omega⟩
        have HSt : Hid (runO W R ((T n0).take (j + 1)) = (decW Wj f, if y = 0 then insAt (posR Rj f) f Rj else Rj)) := by
          show _ = _
          rw [hst]
          unfold stepO
          rw [← hWj, ← hRj, hy]
          rfl
        have hcf : ∃ tb, ta = some ⟨tb, 0, none⟩ ∧ wr.cell? ⟨tb, j, none⟩ = some (.int .i64 (f : Int)) := by
          have ho2 := hG.rws.own n0 hn0
          rw [HC.out, ← HNt.out] at ho2
          have ho3 := ho2
          rcases ho2.2 with ⟨_, h2⟩ | ⟨g1, c1, cur1, h1, h2, h3, h4, h5, _⟩
          · omega
          · simp only [Value.slice.injEq] at h1
            obtain ⟨rfl, _, rfl⟩ := h1
            refine ⟨g1, rfl, ?_⟩
            rw [ho3.cellAt j (by omega), List.getElem?_map, hfe]
            rfl
        obtain ⟨tb, rfl, hcf2⟩ := hcf
        have qo1 : wr.cell? ⟨o, 1, none⟩ = some (.slice (some ⟨q, 0, none⟩) n n) := (hG.ord.cell 1).trans rfl
        obtain ⟨z, hz⟩ : ∃ z, z = Wj f := ⟨_, rfl⟩
        have hzy : z = y + 1 := by omega
        have qf : wr.cell? ⟨q, f, none⟩ = some (.int .i64 (z : Int)) := by
          rw [hG.wts.cell f]
          simp [hfn, hz]
        have ff := hG.wts.frozen f
        have hwy : IntKind.i64.wrap ((z : Int) - 1) = (y : Int) := by rw [IntKind.wrap_i64]; omega
        have hwj : IntKind.i64.wrap ((j : Int) + 1) = ((j + 1 : Nat) : Int) := by rw [IntKind.wrap_i64]; omega
        have hjn' : (j : Int) < (nt : Int) := by omega
        have hfn' : (f : Int) < (n : Int) := by omega
        have hG1 := hG.wait f y
        have hdW : (fun j => if j = f then y else Wj j) = decW Wj f := by
          funext k
          unfold decW
          rw [hy]
          rfl
        rw [hdW] at hG1
        have hBw1 : Nx K o w (wr.setCell ⟨q, f, none⟩ (.int .i64 (y : Int))) := hBw.trans (Nx.setQ hG.wts hKq _)
        have qo11 : (wr.setCell ⟨q, f, none⟩ (.int .i64 (y : Int))).cell? ⟨o, 1, none⟩ = some (.slice (some ⟨q, 0, none⟩) n n) := (hG1.ord.cell 1).trans rfl
        have qf1 : (wr.setCell ⟨q, f, none⟩ (.int .i64 (y : Int))).cell? ⟨q, f, none⟩ = some (.int .i64 (y : Int)) := by
          rw [hG1.wts.cell f]
          simp [hfn, decW, hy]
        obtain ⟨w1, hw1⟩ : ∃ x, x = wr.setCell ⟨q, f, none⟩ (.int .i64 (y : Int)) := ⟨_, rfl⟩
        rw [← hw1] at hG1 hBw1 qo11 qf1
        have hw1' := hw1.symm
        have HG1 : Hid _ := hG1
        have HBw1 : Hid _ := hBw1
        clear hw1 hG hBw hBw1 hdW hst hWj hRj hf hfe hp1 hp2 hy hz hzy
        by_cases hy0 : y = 0
        · subst hy0
          rw [if_pos rfl] at HSt
          have e0 : ((0 : Nat) : Int) = 0 := rfl
          rw [e0] at hw1' hwy qf1
          clear e0
          have qo12 : w1.cell? ⟨o, 2, none⟩ = some rvj := (hG1.ord.cell 2).trans rfl
          have H := search_ready w1 B2 f Rj rvj hG1.ready hp3 hp4
          have hpl := posR_le Rj f
          obtain ⟨at_, hat⟩ : ∃ x, x = posR Rj f := ⟨_, rfl⟩
          rw [← hat] at H HSt hpl
          clear hG1 hat hp3
          go_wp2_with fail
          refine H.mono ?_
          rintro e w2 ⟨⟨fb, rfl⟩, k2, rfl⟩
          clear H
          have hG2 := HG1.out.drew k2
          have hBw2 : Nx K o w (w1.drewN k2) := HBw1.out.trans (Nx.drewN _ _)
          obtain ⟨w2, hw2⟩ : ∃ x, x = w1.drewN k2 := ⟨_, rfl⟩
          rw [← hw2] at hG2 hBw2 ⊢
          clear hw2 qo11 qf1 qo12 hw1'
          have qo2 : w2.cell? ⟨o, 2, none⟩ = some rvj := (hG2.ord.cell 2).trans rfl
          have hba : Below w2.heap.size w2 (w2.alloc (.cells #[.int .i64 (f : Int)] 3)) := (Below.refl _ _).alloc (Nat.le_refl _) _
          have hsz := hG2.size
          have hol := hG2.ord.lt
          have H2 := insert_ok (w2.alloc (.cells #[.int .i64 (f : Int)] 3)) B2 at_ f w2.heap.size Rj rvj (hG2.ready.keep fun k _ hk => hba.block k hk) hpl hp4 (by simp; omega) (Row.new w2 _ _) (fun e => by have := (hG2.ready.own _ e).2; omega)
          have HG2 : Hid _ := hG2
          have HBw2 : Hid _ := hBw2
          clear hG2 hBw2
          go_wp2_with fail
          refine H2.mono ?_
          rintro e w4 ⟨v', rfl, hr4, hg4⟩
          clear H2
          have hg24 : w2.grownBy w4 rvj.ownBlock := ⟨hg4.os, hg4.tape, hg4.output, by have := hg4.size; simp at this; omega, fun k hk hne => (hg4.block k (by simp; omega) hne).trans (hba.block k hk)⟩
          have hG4 := HG2.out.put hr4 hg24
          have hloB : o < B2 := by have := HG2.out.lt.2; have := HG2.out.le; omega
          have ho4 : Row w4 o #[.slice (some ⟨r, 0, none⟩) n n, .slice (some ⟨q, 0, none⟩) n n, rvj] 70 := (hg24.block o hol (fun e => by have := (HG2.out.ready.own o e.symm).1; omega)).trans HG2.out.ord
          have q4 := (ho4.cell 2).trans (rfl : _ = some rvj)
          have f4 := ho4.frozen 2
          have HB4 : Hid (Nx K o w (w4.setCell ⟨o, 2, none⟩ v')) := (HBw2.out.trans (Nx.grown HG2.out.ready hKB (by omega) hg24)).trans (Nx.setO hKo v')
          obtain ⟨ba4, ca4, hv4, _⟩ := hr4
          subst hv4
          have HG4 : Hid _ := hG4
          clear hG4 hg4 hg24 hba ho4 hloB
          go_wp2
          go_roundw
          case rel =>
            refine ⟨j + 1, .slice ba4 (insAt at_ f Rj).length ca4, by go_num, by omega, ?_, HB4.out⟩
            rw [HSt.out]
            exact HG4.out
          case measure => simp [intOf]; omega
        · have hy1 : ¬ (y : Int) = 0 := by omega
          rw [if_neg hy0] at HSt
          clear hG1 hp3 hp4
          go_wp2
          go_roundw
          case rel =>
            refine ⟨j + 1, rvj, by go_num, by omega, ?_, HBw1.out⟩
            rw [HSt.out]
            exact HG1.out
          case measure => simp [intOf]; omega
      · have hlt' : ¬ (j : Int) < (nt : Int) := by omega
        obtain rfl : j = nt := by omega
        have HF : Hid (NextPost w K B B2 r q o n C T W n0 R (.returned (.int .i64 (n0 : Int))) wr) := ⟨rfl, ⟨rvj, by rw [HNt.out, List.take_length] at hG; exact hG⟩, hBw⟩
        clear hG hBw
        go_wp2
        go_ret
        exact HF.out
end Go.Proofs.Ytkbhckjpmgkgjaa
