/- My own work: the document's own reader of derivations: a text between quotes. -/
import Derived.Test.YtmpgfepkdhjibaaDoorRRa
import Derived.Test.YtmpgfepkdhjibaaDoorRefQ
import Derived.Deep.DeepCutAuto
namespace Go.Proofs.YtmpgfepkdhjibaaDoor
open Go.RowKit

/-- What a call of the document's reader tells, by its end. -/
def ReadsR {α : Type} (E : α → List UInt8) (V : World → Value → α → Prop) (g : Nat) (s : ByteArray) (p : Nat) (b : Bool) (w : World) (r : Ending) (w' : World) : Prop :=
  Gr g w w' ∧ ∃ v x p' b', r = .returned v ∧ V w' v x ∧ Rr w' g s p' b' ∧ Oc E s p b x p' b'
def leftR (s : ByteArray) (g : Nat) (w : World) : Nat := match w.cell? ⟨g, 1, none⟩, w.cell? ⟨g, 2, none⟩ with | some (.int _ p), some (.bool false) => s.size + 1 - p.toNat | _, _ => 0
theorem leftR_ok {w : World} {g : Nat} {s : ByteArray} {p : Nat} (h : Rr w g s p false) : leftR s g w = s.size + 1 - p := by
  unfold leftR
  rw [(h.row.cell 1).trans (rfl : _ = some (Value.int .i64 p)), (h.row.cell 2).trans (rfl : _ = some (Value.bool false))]
  rfl
theorem leftR_bad {w : World} {g : Nat} {s : ByteArray} {p : Nat} (h : Rr w g s p true) : leftR s g w = 0 := by
  unfold leftR
  rw [(h.row.cell 1).trans (rfl : _ = some (Value.int .i64 p)), (h.row.cell 2).trans (rfl : _ = some (Value.bool true))]
theorem Rr.more {g B : Nat} {w w' : World} {v v' : Value} {X Z : List UInt8} {s : ByteArray} {p : Nat} {b : Bool} (h : Rr w g s p b) (h0 : Buf w B v X) (hm : More B w v w' v' Z) : Rr w' g s p b := ⟨hm.row h0 h.row (by decide), h.le, h.small⟩
theorem Rr.at_ {w : World} {g : Nat} {s : ByteArray} {p p' : Nat} {b : Bool} (h : Rr w g s p b) (hp : p' ≤ s.size) : Rr (w.setCell ⟨g, 1, none⟩ (.int .i64 (p' : Int))) g s p' b := ⟨h.row.setCell _, hp, h.small⟩
theorem Rr.bad {w : World} {g : Nat} {s : ByteArray} {p : Nat} {b : Bool} (h : Rr w g s p b) : Rr (w.setCell ⟨g, 2, none⟩ (.bool true)) g s p true := ⟨h.row.setCell _, h.le, h.small⟩
theorem Rr.cells {w : World} {g : Nat} {s : ByteArray} {p : Nat} {b : Bool} (h : Rr w g s p b) : w.cell? ⟨g, 0, none⟩ = some (.string s) ∧ w.cell? ⟨g, 1, none⟩ = some (.int .i64 p) ∧ w.cell? ⟨g, 2, none⟩ = some (.bool b) ∧ w.frozen? ⟨g, 1, none⟩ = false ∧ w.frozen? ⟨g, 2, none⟩ = false :=
  ⟨(h.row.cell 0).trans rfl, (h.row.cell 1).trans rfl, (h.row.cell 2).trans rfl, h.row.frozen 1, h.row.frozen 2⟩
theorem run_oneI (w : World) (b : Int) : (Instr.buildSlice 49 1 #[(0, .int .u8 b)]).run Tryd.prog w = .ok (.slice (some ⟨w.heap.size, 0, none⟩) 1 1) (w.alloc (.cells #[.int .u8 b] 5)) := by
  obtain ⟨i0, hi, hz0, hz1, hz2⟩ := info_parts infoB
  refine run_buildSlice w 49 5 1 _ _ i0 _ Tryd.underlying49 hi hz0 (by rw [hz1]; decide) (by rw [hz1]; decide) ?_
  have h := Great.fill_whole (s := 1) (by decide) [.int .u8 b] ((Array.range (1 * i0.size)).map ((Value.int .u8 0).cells[· % (Value.int .u8 0).cells.size]!)) (fun x hx => by simp at hx; subst hx; rfl) (by simp [hz1])
  rw [hz1] at h ⊢
  simpa [Value.cells] using h
theorem u8_eq {a c : UInt8} (h : c = a) : ((c.toNat : Int) == (a.toNat : Int)) = true := by rw [h]; simp
theorem u8_neq {a c : UInt8} (h : ¬ c = a) : ((c.toNat : Int) == (a.toNat : Int)) = false := by
  simp only [beq_eq_false_iff_ne]
  exact fun e => h (UInt8.toNat_inj.1 (by omega))
/-- How one letter ends. -/
def LetO (s : ByteArray) (p : Nat) (c : UInt8) (p' : Nat) (b' : Bool) : Prop :=
  p < p' ∧ ((b' = false ∧ (bl s).drop p = escU c ++ (bl s).drop p') ∨ (b' = false ∧ p' = s.size ∧ ∀ c' r, (bl s).drop p ≠ escU c' ++ r) ∨ (b' = true ∧ ∀ c' r, (bl s).drop p ≠ escU c' ++ r))
/-- What holds while a text is read. -/
def QIn (s : ByteArray) (p : Nat) (X : List UInt8) (p2 : Nat) (b2 : Bool) : Prop :=
  (b2 = false → (bl s).drop p = 34 :: (escL X ++ (bl s).drop p2) ∨ (p2 = s.size ∧ ∀ y r, (bl s).drop p ≠ strE y ++ r)) ∧ (b2 = true → ∀ y r, (bl s).drop p ≠ strE y ++ r)
theorem QIn.no {s : ByteArray} {p p2 : Nat} {X : List UInt8} (hd : (bl s).drop p = 34 :: (escL X ++ (bl s).drop p2)) (h34 : ((bl s).drop p2).head? ≠ some 34) (hn : ∀ c' r, (bl s).drop p2 ≠ escU c' ++ r) : ∀ y r, (bl s).drop p ≠ strE y ++ r := fun y r e => by
  rw [hd] at e
  simp only [strE, quoteU, List.cons_append, List.cons.injEq, true_and, List.append_assoc, List.nil_append] at e
  obtain ⟨Y, hY⟩ := quote_rest X (bl y) _ _ e
  cases Y with
  | nil =>
    apply h34
    rw [hY]
    rfl
  | cons c' Y =>
    rw [escL_cons, List.append_assoc] at hY
    exact hn c' _ hY
theorem QIn.step {s : ByteArray} {p p2 p3 : Nat} {X : List UInt8} {c : UInt8} {b3 : Bool} (hd : (bl s).drop p = 34 :: (escL X ++ (bl s).drop p2)) (h34 : ((bl s).drop p2).head? ≠ some 34) (hl : LetO s p2 c p3 b3) : QIn s p (X ++ [c]) p3 b3 := by
  rcases hl.2 with ⟨rfl, h⟩ | ⟨rfl, h1, h2⟩ | ⟨rfl, h⟩
  · exact ⟨fun _ => .inl (by rw [hd, h, escL_append]; simp [escL]), fun e => absurd e (by decide)⟩
  · exact ⟨fun _ => .inr ⟨h1, QIn.no hd h34 h2⟩, fun e => absurd e (by decide)⟩
  · exact ⟨fun e => absurd e (by decide), fun _ => QIn.no hd h34 h⟩
theorem drop_at {s : ByteArray} {p : Nat} (h : p < s.size) : (bl s).drop p = s[p] :: (bl s).drop (p + 1) := List.drop_eq_getElem_cons (by rw [bl_len]; exact h)
/-- A byte that stands for nothing. -/
theorem no_raw {s : ByteArray} {p : Nat} (h : p < s.size) {x : UInt8} (hx : signN s[p] = some x) (h92 : s[p] ≠ 92) : ∀ c' r, (bl s).drop p ≠ escU c' ++ r := fun c' r e => by
  rw [drop_at h] at e
  unfold escU at e
  rcases signN_cases c' with ⟨z, hz⟩ | ⟨hz, _⟩
  · rw [hz] at e
    simp at e
    exact h92 e.1
  · rw [hz] at e
    simp at e
    rw [e.1, hz] at hx
    cases hx
theorem no_sign {s : ByteArray} {p : Nat} (h : p < s.size) (h92 : s[p] = 92) (hn : ∀ (h1 : p + 1 < s.size), meantN s[p + 1] = none) : ∀ c' r, (bl s).drop p ≠ escU c' ++ r := fun c' r e => by
  rw [drop_at h, h92] at e
  unfold escU at e
  rcases signN_cases c' with ⟨z, hz⟩ | ⟨hz, _, h2⟩
  · rw [hz] at e
    simp only [List.cons_append, List.cons.injEq, true_and, List.nil_append] at e
    have h1 : p + 1 < s.size := by
      refine Nat.lt_of_not_le (fun hle => ?_)
      rw [List.drop_of_length_le (by rw [bl_len]; exact hle)] at e
      cases e
    rw [drop_at h1] at e
    simp only [List.cons.injEq] at e
    have := hn h1
    rw [e.1] at this
    rw [meant_sign hz] at this
    cases this
  · rw [hz] at e
    simp at e
    exact h2.1 e.1.symm
theorem let_sign {s : ByteArray} {p : Nat} (h : p + 1 < s.size) (h92 : s[p] = 92) {c : UInt8} (hm : meantN s[p + 1] = some c) : LetO s p c (p + 2) false := by
  refine ⟨by omega, .inl ⟨rfl, ?_⟩⟩
  rw [drop_at (by omega : p < s.size), drop_at h, h92]
  unfold escU
  rw [sign_meant hm]
  rfl
theorem let_plain {s : ByteArray} {p : Nat} (h : p < s.size) (hs : signN s[p] = none) : LetO s p s[p] (p + 1) false := by
  refine ⟨by omega, .inl ⟨rfl, ?_⟩⟩
  rw [drop_at h]
  unfold escU
  rw [hs]
  rfl
set_option maxRecDepth 20000 in
set_option maxHeartbeats 16000000 in
theorem quotedR_ok (g : Nat) (s : ByteArray) (p : Nat) (b : Bool) (w : World) (h : Rr w g s p b) : Calls Tryd.prog 29 #[.pointer (some ⟨g, 0, none⟩)] w fun r w' => ReadsR strE (fun _ v x => v = .string x) g s p b w r w' := by
  have hbl := bl_len s
  obtain ⟨RP, hRP⟩ : ∃ RP, RP = ReadsR strE (fun _ v x => v = .string x) g s p b w := ⟨_, rfl⟩
  have HRP : Hid (∀ r w', ReadsR strE (fun _ v x => v = .string x) g s p b w r w' → RP r w') := fun r w' h => by rw [hRP]; exact h
  rw [← hRP]
  have hgl : g < w.heap.size := h.row.lt
  have hsm := h.small
  have HP := take_ok g s p b ⟨#[34]⟩ w h
  clear h hRP
  go_enter Tryd.func29, Tryd.ntmps29
  go_wp2_with fail
  refine Calls.mono HP ?_
  rintro e w1 ⟨⟨v1, rfl⟩, hg1, p1, b1, hr1, ho1⟩
  have HR1 : Hid (Rr w1 g s p1 b1) := hr1
  have HG1 : Hid (Gr g w w1) := hg1
  have HO1 : Hid (Oc (conE [34]) s p b () p1 b1) := ho1
  clear hr1 hg1 HP ho1
  go_wp2
  go_loopw [3, 4] (fun bv _ wx => ∃ (X : List UInt8) (p2 : Nat) (b2 : Bool), Hid (Buf wx w.heap.size bv X) ∧ Hid (Rr wx g s p2 b2) ∧ Hid (Gr g w wx) ∧ Hid (b = false → QIn s p X p2 b2) ∧ Hid (b = true → b2 = true) ∧ Hid (X.length ≤ p2)) (fun _ _ wx => leftR s g wx)
  case atStart =>
    refine ⟨[], p1, b1, World.ownsRow_nil _ _ _ _, HR1, HG1, ?_, HO1.out.1, Nat.zero_le _⟩
    show b = false → _
    intro hb
    rcases HO1.out.2 hb with ⟨h1, h2⟩ | ⟨h1, h2⟩
    · exact ⟨fun _ => .inl (by rw [h2]; rfl), fun h => absurd (h1.symm.trans h) (by decide)⟩
    · refine ⟨fun h => absurd (h1.symm.trans h) (by decide), fun _ y r e => h2 () (escL (bl y) ++ 34 :: r) ?_⟩
      rw [e]
      simp [strE, quoteU, conE]
  case round =>
    clear HR1 HG1 HO1
    obtain ⟨X, p2, b2, HX, HR, HG, HN, HT2, HXl⟩ := hrel
    have hszw := HG.out.size
    cases b2 with
    | true =>
      obtain ⟨_, _, c2, _, _⟩ := HR.out.cells
      have HP := take_ok g s p2 true ⟨#[34]⟩ wr HR.out
      go_wp2_with fail
      refine Calls.mono HP ?_
      rintro e w3 ⟨⟨v3, rfl⟩, hg3, p3, b3, hr3, ho3⟩
      obtain rfl : b3 = true := ho3.1 rfl
      have hcv := conv_buf w3 w.heap.size u3 X (HX.out.gr hg3 hgl)
      have HE : Hid (ReadsR strE (fun _ v x => v = .string x) g s p b w (.returned (.string ⟨X.toArray⟩)) w3) := ⟨HG.out.trans hg3, _, ⟨X.toArray⟩, p3, true, rfl, rfl, hr3, fun _ => rfl, fun hb => .inr ⟨rfl, (HN.out hb).2 rfl⟩⟩
      clear hr3 hg3 HP HX HR HG HN HT2 c2 ho3
      go_wp2
      exact HRP.out _ _ HE.out
    | false =>
      have hbf : b = false := by
        cases b with
        | false => rfl
        | true => exact absurd (HT2.out rfl) (by decide)
      obtain ⟨_, _, c2, _, _⟩ := HR.out.cells
      have hle2 := HR.out.le
      have HS := nextR_ok g s p2 false 34 wr HR.out
      by_cases h34 : ((bl s).drop p2).head? = some 34
      · rw [decide_eq_true h34] at HS
        have hlt : p2 < s.size := by
          refine Nat.lt_of_not_le (fun hle => ?_)
          rw [List.drop_of_length_le (by omega)] at h34
          cases h34
        have HDr : Hid ((bl s).drop p = 34 :: (escL X ++ (bl s).drop p2)) := by
          rcases (HN.out hbf).1 rfl with h | ⟨h, _⟩
          · exact h
          · omega
        have HY34 : Hid ((bl s).drop p2 = conE (bl ⟨#[34]⟩) () ++ (bl s).drop (p2 + 1)) := by
          show _ = _
          rw [drop_at hlt] at h34 ⊢
          simp only [List.head?_cons, Option.some.injEq] at h34
          rw [h34]
          rfl
        clear h34
        go_wp2_with fail
        refine Calls.mono HS ?_
        rintro e w2 ⟨rfl, hb2⟩
        have HP := take_ok g s p2 false ⟨#[34]⟩ w2 (HR.out.keep hb2)
        have HG2 : Hid (Gr g w w2) := HG.out.trans (Gr.of hb2)
        have HX2 : Hid (Buf w2 w.heap.size u3 X) := HX.out.keep hb2
        clear hb2 HS c2
        go_wp2_with fail
        refine Calls.mono HP ?_
        rintro e w3 ⟨⟨v3, rfl⟩, hg3, p3, b3, hr3, ho3⟩
        have hcv := conv_buf w3 w.heap.size u3 X (HX2.out.gr hg3 hgl)
        have HE : Hid (ReadsR strE (fun _ v x => v = .string x) g s p b w (.returned (.string ⟨X.toArray⟩)) w3) := by
          refine ⟨HG2.out.trans hg3, _, ⟨X.toArray⟩, p3, b3, rfl, rfl, hr3, fun h => absurd (hbf.symm.trans h) (by decide), fun _ => ?_⟩
          rcases ho3.2 rfl with ⟨e1, e2⟩ | ⟨e1, e2⟩
          · refine .inl ⟨e1, ?_⟩
            rw [HDr.out, e2]
            simp [strE, quoteU, bl, conE]
          · refine absurd ?_ (e2 () ((bl s).drop (p2 + 1)))
            exact HY34.out
        clear hr3 hg3 HP HX HX2 HR HG HG2 HN HT2 ho3
        go_wp2
        exact HRP.out _ _ HE.out
      · rw [decide_eq_false h34] at HS
        have H34 : Hid _ := h34
        clear h34
        go_wp2_with fail
        refine Calls.mono HS ?_
        rintro e w2 ⟨rfl, hb2⟩
        have HG2 : Hid (Gr g w w2) := HG.out.trans (Gr.of hb2)
        have HX2 : Hid (Buf w2 w.heap.size u3 X) := HX.out.keep hb2
        have HR2 : Hid (Rr w2 g s p2 false) := HR.out.keep hb2
        have HL0 : Hid (leftR s g wr = s.size + 1 - p2) := leftR_ok HR.out
        clear hb2 HS c2 HG HX HR
        obtain ⟨c0, c1, c2, z1, z2⟩ := HR2.out.cells
        by_cases hlt : p2 < s.size
        · have hdec : decide ((s.size : Int) ≤ (p2 : Int)) = false := decide_eq_false (by omega)
          have HDr : Hid ((bl s).drop p = 34 :: (escL X ++ (bl s).drop p2)) := by
            rcases (HN.out hbf).1 rfl with h | ⟨h, _⟩
            · exact h
            · omega
          clear HN HT2
          go_wp2
          go_quiet (fail)
          obtain ⟨w4, hw4⟩ : ∃ x, x = w2.drewN nq := ⟨_, rfl⟩
          try rw [← hw4]
          have HG4 : Hid (Gr g w w4) := by rw [hw4]; exact HG2.out.trans (drewN_gr g w2 nq)
          have HX4 : Hid (Buf w4 w.heap.size u3 X) := by rw [hw4]; exact HX2.out.keep (below_drewN (Below.refl _ _) nq)
          have HR4 : Hid (Rr w4 g s p2 false) := by rw [hw4]; exact HR2.out.keep (below_drewN (Below.refl _ _) nq)
          clear hw4 HG2 HX2 HR2 c0 c1 c2 z1 z2
          obtain ⟨c0, c1, c2, z1, z2⟩ := HR4.out.cells
          go_wp2
          go_quiet (fail)
          obtain ⟨w7, hw7⟩ : ∃ x, x = w4.drewN nq := ⟨_, rfl⟩
          try rw [← hw7]
          have HG7 : Hid (Gr g w w7) := by rw [hw7]; exact HG4.out.trans (drewN_gr g w4 nq)
          have HX7 : Hid (Buf w7 w.heap.size u3 X) := by rw [hw7]; exact HX4.out.keep (below_drewN (Below.refl _ _) nq)
          have HR7 : Hid (Rr w7 g s p2 false) := by rw [hw7]; exact HR4.out.keep (below_drewN (Below.refl _ _) nq)
          clear hw7 HG4 HX4 HR4 c0 c1 c2 z1 z2
          obtain ⟨c0, c1, c2, z1, z2⟩ := HR7.out.cells
          have HR8 : Hid (Rr (w7.setCell ⟨g, 1, none⟩ (.int .i64 ((p2 : Int) + 1))) g s (p2 + 1) false) := HR7.out.at_ (p' := p2 + 1) (by omega)
          have HG8 : Hid (Gr g w (w7.setCell ⟨g, 1, none⟩ (.int .i64 ((p2 : Int) + 1)))) := HG7.out.trans (gr_set _)
          have HX8 : Hid (Buf (w7.setCell ⟨g, 1, none⟩ (.int .i64 ((p2 : Int) + 1))) w.heap.size u3 X) := HX7.out.gr (gr_set _) hgl
          obtain ⟨d0, d1, d2, y1, y2⟩ := HR8.out.cells
          have h34 : s[p2] ≠ 34 := fun e => H34.out (by rw [drop_at hlt, e]; rfl)
          by_cases h10 : s[p2] = 10
          · have hv : s[p2].toNat = 10 := by rw [h10]; rfl
            have HNR : Hid (∀ c' r, (bl s).drop p2 ≠ escU c' ++ r) := no_raw hlt (x := 110) (by rw [h10]; rfl) (by rw [h10]; decide)
            clear h10
            go_wp2
            go_quiet (fail)
            obtain ⟨wT, hwT⟩ : ∃ x, x = ((w7.setCell ⟨g, 1, none⟩ (.int .i64 ((p2 : Int) + 1))).setCell ⟨g, 2, none⟩ (.bool true)).drewN nq := ⟨_, rfl⟩
            try rw [← hwT]
            have HRT : Hid (Rr wT g s (p2 + 1) true) := by rw [hwT]; exact HR8.out.bad.keep (below_drewN (Below.refl _ _) nq)
            have HGT : Hid (Gr g w wT) := by rw [hwT]; exact (HG8.out.trans (gr_set _)).trans (drewN_gr g _ nq)
            have HXT : Hid (Buf wT w.heap.size u3 X) := by rw [hwT]; exact (HX8.out.gr (gr_set _) hgl).keep (below_drewN (Below.refl _ _) nq)
            have HLT : Hid (LetO s p2 (10 : UInt8) (p2 + 1) true) := ⟨by omega, .inr (.inr ⟨rfl, HNR.out⟩)⟩
            clear hwT
            have hszT := HGT.out.size
            have ho3 := run_oneI wT (10 : Int)
            have hk3 : (wT.alloc (.cells #[.int .u8 (10 : Int)] 5)).cell? ⟨wT.heap.size, 0, none⟩ = some (.int .u8 ((10 : UInt8)).toNat) := (Row.new wT _ 5).cell 0
            have HXA : Hid (Buf (wT.alloc (.cells #[.int .u8 (10 : Int)] 5)) w.heap.size u3 X) := HXT.out.keep (below_new (Below.refl _ _) _)
            have hszA : w.heap.size ≤ (wT.alloc (.cells #[.int .u8 (10 : Int)] 5)).heap.size := by simp; omega
            have hXl : X.length ≤ 1048576 := by have := HXl.out; omega
            go_wp2_with (refine ap_one rfl _ _ rfl w.heap.size _ _ rfl HXA.out (10 : UInt8) wT.heap.size 1 rfl hk3 (by omega) hszA ?_)
            intro v5 w5 hm5
            have HX5 : Hid (Buf w5 w.heap.size v5 (X ++ [(10 : UInt8)])) := hm5.buf
            have HG5 : Hid (Gr g w w5) := Gr.more (HGT.out.trans (Gr.of (below_new (Below.refl _ _) _))) HXA.out (Nat.le_refl _) hm5
            have HR5 : Hid (Rr w5 g s (p2 + 1) true) := (HRT.out.keep (below_new (Below.refl _ _) _)).more HXA.out hm5
            have HN5 : Hid (b = false → QIn s p (X ++ [(10 : UInt8)]) (p2 + 1) true) := fun _ => QIn.step HDr.out H34.out HLT.out
            have HM5 : Hid (leftR s g w5 < leftR s g wr) := by
              show _ < _
              have hle5 := HR5.out.le
              rw [HL0.out, leftR_bad HR5.out]
              omega
            have HXl5 : Hid ((X ++ [(10 : UInt8)]).length ≤ p2 + 1) := by
              show _ ≤ _
              have := HXl.out
              rw [List.length_append, List.length_singleton]
              omega
            clear hm5 HXA hk3 ho3 HRT HGT HXT HLT HXl HDr
            go_wp2
            go_roundw
            case rel => exact ⟨X ++ [(10 : UInt8)], p2 + 1, true, HX5, HR5, HG5, HN5, (fun _ => rfl), HXl5⟩
            case measure => exact HM5.out
          by_cases h13 : s[p2] = 13
          · have hv : s[p2].toNat = 13 := by rw [h13]; rfl
            have HNR : Hid (∀ c' r, (bl s).drop p2 ≠ escU c' ++ r) := no_raw hlt (x := 114) (by rw [h13]; rfl) (by rw [h13]; decide)
            clear h13
            go_wp2
            go_quiet (fail)
            obtain ⟨wT, hwT⟩ : ∃ x, x = ((w7.setCell ⟨g, 1, none⟩ (.int .i64 ((p2 : Int) + 1))).setCell ⟨g, 2, none⟩ (.bool true)).drewN nq := ⟨_, rfl⟩
            try rw [← hwT]
            have HRT : Hid (Rr wT g s (p2 + 1) true) := by rw [hwT]; exact HR8.out.bad.keep (below_drewN (Below.refl _ _) nq)
            have HGT : Hid (Gr g w wT) := by rw [hwT]; exact (HG8.out.trans (gr_set _)).trans (drewN_gr g _ nq)
            have HXT : Hid (Buf wT w.heap.size u3 X) := by rw [hwT]; exact (HX8.out.gr (gr_set _) hgl).keep (below_drewN (Below.refl _ _) nq)
            have HLT : Hid (LetO s p2 (13 : UInt8) (p2 + 1) true) := ⟨by omega, .inr (.inr ⟨rfl, HNR.out⟩)⟩
            clear hwT
            have hszT := HGT.out.size
            have ho3 := run_oneI wT (13 : Int)
            have hk3 : (wT.alloc (.cells #[.int .u8 (13 : Int)] 5)).cell? ⟨wT.heap.size, 0, none⟩ = some (.int .u8 ((13 : UInt8)).toNat) := (Row.new wT _ 5).cell 0
            have HXA : Hid (Buf (wT.alloc (.cells #[.int .u8 (13 : Int)] 5)) w.heap.size u3 X) := HXT.out.keep (below_new (Below.refl _ _) _)
            have hszA : w.heap.size ≤ (wT.alloc (.cells #[.int .u8 (13 : Int)] 5)).heap.size := by simp; omega
            have hXl : X.length ≤ 1048576 := by have := HXl.out; omega
            go_wp2_with (refine ap_one rfl _ _ rfl w.heap.size _ _ rfl HXA.out (13 : UInt8) wT.heap.size 1 rfl hk3 (by omega) hszA ?_)
            intro v5 w5 hm5
            have HX5 : Hid (Buf w5 w.heap.size v5 (X ++ [(13 : UInt8)])) := hm5.buf
            have HG5 : Hid (Gr g w w5) := Gr.more (HGT.out.trans (Gr.of (below_new (Below.refl _ _) _))) HXA.out (Nat.le_refl _) hm5
            have HR5 : Hid (Rr w5 g s (p2 + 1) true) := (HRT.out.keep (below_new (Below.refl _ _) _)).more HXA.out hm5
            have HN5 : Hid (b = false → QIn s p (X ++ [(13 : UInt8)]) (p2 + 1) true) := fun _ => QIn.step HDr.out H34.out HLT.out
            have HM5 : Hid (leftR s g w5 < leftR s g wr) := by
              show _ < _
              have hle5 := HR5.out.le
              rw [HL0.out, leftR_bad HR5.out]
              omega
            have HXl5 : Hid ((X ++ [(13 : UInt8)]).length ≤ p2 + 1) := by
              show _ ≤ _
              have := HXl.out
              rw [List.length_append, List.length_singleton]
              omega
            clear hm5 HXA hk3 ho3 HRT HGT HXT HLT HXl HDr
            go_wp2
            go_roundw
            case rel => exact ⟨X ++ [(13 : UInt8)], p2 + 1, true, HX5, HR5, HG5, HN5, (fun _ => rfl), HXl5⟩
            case measure => exact HM5.out
          by_cases h9 : s[p2] = 9
          · have hv : s[p2].toNat = 9 := by rw [h9]; rfl
            have HNR : Hid (∀ c' r, (bl s).drop p2 ≠ escU c' ++ r) := no_raw hlt (x := 116) (by rw [h9]; rfl) (by rw [h9]; decide)
            clear h9
            go_wp2
            go_quiet (fail)
            obtain ⟨wT, hwT⟩ : ∃ x, x = ((w7.setCell ⟨g, 1, none⟩ (.int .i64 ((p2 : Int) + 1))).setCell ⟨g, 2, none⟩ (.bool true)).drewN nq := ⟨_, rfl⟩
            try rw [← hwT]
            have HRT : Hid (Rr wT g s (p2 + 1) true) := by rw [hwT]; exact HR8.out.bad.keep (below_drewN (Below.refl _ _) nq)
            have HGT : Hid (Gr g w wT) := by rw [hwT]; exact (HG8.out.trans (gr_set _)).trans (drewN_gr g _ nq)
            have HXT : Hid (Buf wT w.heap.size u3 X) := by rw [hwT]; exact (HX8.out.gr (gr_set _) hgl).keep (below_drewN (Below.refl _ _) nq)
            have HLT : Hid (LetO s p2 (9 : UInt8) (p2 + 1) true) := ⟨by omega, .inr (.inr ⟨rfl, HNR.out⟩)⟩
            clear hwT
            have hszT := HGT.out.size
            have ho3 := run_oneI wT (9 : Int)
            have hk3 : (wT.alloc (.cells #[.int .u8 (9 : Int)] 5)).cell? ⟨wT.heap.size, 0, none⟩ = some (.int .u8 ((9 : UInt8)).toNat) := (Row.new wT _ 5).cell 0
            have HXA : Hid (Buf (wT.alloc (.cells #[.int .u8 (9 : Int)] 5)) w.heap.size u3 X) := HXT.out.keep (below_new (Below.refl _ _) _)
            have hszA : w.heap.size ≤ (wT.alloc (.cells #[.int .u8 (9 : Int)] 5)).heap.size := by simp; omega
            have hXl : X.length ≤ 1048576 := by have := HXl.out; omega
            go_wp2_with (refine ap_one rfl _ _ rfl w.heap.size _ _ rfl HXA.out (9 : UInt8) wT.heap.size 1 rfl hk3 (by omega) hszA ?_)
            intro v5 w5 hm5
            have HX5 : Hid (Buf w5 w.heap.size v5 (X ++ [(9 : UInt8)])) := hm5.buf
            have HG5 : Hid (Gr g w w5) := Gr.more (HGT.out.trans (Gr.of (below_new (Below.refl _ _) _))) HXA.out (Nat.le_refl _) hm5
            have HR5 : Hid (Rr w5 g s (p2 + 1) true) := (HRT.out.keep (below_new (Below.refl _ _) _)).more HXA.out hm5
            have HN5 : Hid (b = false → QIn s p (X ++ [(9 : UInt8)]) (p2 + 1) true) := fun _ => QIn.step HDr.out H34.out HLT.out
            have HM5 : Hid (leftR s g w5 < leftR s g wr) := by
              show _ < _
              have hle5 := HR5.out.le
              rw [HL0.out, leftR_bad HR5.out]
              omega
            have HXl5 : Hid ((X ++ [(9 : UInt8)]).length ≤ p2 + 1) := by
              show _ ≤ _
              have := HXl.out
              rw [List.length_append, List.length_singleton]
              omega
            clear hm5 HXA hk3 ho3 HRT HGT HXT HLT HXl HDr
            go_wp2
            go_roundw
            case rel => exact ⟨X ++ [(9 : UInt8)], p2 + 1, true, HX5, HR5, HG5, HN5, (fun _ => rfl), HXl5⟩
            case measure => exact HM5.out
          by_cases h92 : s[p2] = 92
          · have hv : s[p2].toNat = 92 := by rw [h92]; rfl
            by_cases hl1 : p2 + 1 < s.size
            · have hdec1 : decide ((p2 : Int) + 1 < (s.size : Int)) = true := decide_eq_true (by omega)
              have H92 : Hid _ := h92
              clear h92 h10 h13 h9 h34
              go_wp2
              go_quiet (fail)
              obtain ⟨w11, hw11⟩ : ∃ x, x = ((w7.setCell ⟨g, 1, none⟩ (.int .i64 ((p2 : Int) + 1)))).drewN nq := ⟨_, rfl⟩
              try rw [← hw11]
              have HG11 : Hid (Gr g w w11) := by rw [hw11]; exact HG8.out.trans (drewN_gr g _ nq)
              have HX11 : Hid (Buf w11 w.heap.size u3 X) := by rw [hw11]; exact HX8.out.keep (below_drewN (Below.refl _ _) nq)
              obtain ⟨m, hm⟩ : ∃ m, m = p2 + 1 := ⟨_, rfl⟩
              have hlm : m < s.size := by omega
              have hm2 : p2 < m := by omega
              have HR11 : Hid (Rr w11 g s m false) := by rw [hw11, hm]; exact HR8.out.keep (below_drewN (Below.refl _ _) nq)
              have HM : Hid _ := hm
              clear hm hw11 HG7 HX7 HR7 HG8 HX8 HR8 c0 c1 c2 z1 z2 d0 d1 d2 y1 y2
              obtain ⟨c0, c1, c2, z1, z2⟩ := HR11.out.cells
              go_wp2
              go_quiet (fail)
              obtain ⟨w12, hw12⟩ : ∃ x, x = w11.drewN nq := ⟨_, rfl⟩
              try rw [← hw12]
              have HG12 : Hid (Gr g w w12) := by rw [hw12]; exact HG11.out.trans (drewN_gr g _ nq)
              have HX12 : Hid (Buf w12 w.heap.size u3 X) := by rw [hw12]; exact HX11.out.keep (below_drewN (Below.refl _ _) nq)
              have HR12 : Hid (Rr w12 g s m false) := by rw [hw12]; exact HR11.out.keep (below_drewN (Below.refl _ _) nq)
              clear hw12 HG11 HX11 HR11 c0 c1 c2 z1 z2
              obtain ⟨c0, c1, c2, z1, z2⟩ := HR12.out.cells
              have HR13 : Hid (Rr (w12.setCell ⟨g, 1, none⟩ (.int .i64 ((m : Int) + 1))) g s (m + 1) false) := HR12.out.at_ (p' := m + 1) (by omega)
              have HG13 : Hid (Gr g w (w12.setCell ⟨g, 1, none⟩ (.int .i64 ((m : Int) + 1)))) := HG12.out.trans (gr_set _)
              have HX13 : Hid (Buf (w12.setCell ⟨g, 1, none⟩ (.int .i64 ((m : Int) + 1))) w.heap.size u3 X) := HX12.out.gr (gr_set _) hgl
              obtain ⟨d0, d1, d2, y1, y2⟩ := HR13.out.cells
              by_cases k34 : s[m] = 34
              · have hv1 : s[m].toNat = 34 := by rw [k34]; rfl
                have HLX : Hid (LetO s p2 (34 : UInt8) (m + 1) false) := by
                  have em := HM.out
                  subst em
                  exact let_sign hl1 H92.out (by rw [k34]; rfl)
                clear k34
                go_upto_region 24 with fail
                obtain ⟨wT, hwT⟩ : ∃ x, x = (w12.setCell ⟨g, 1, none⟩ (.int .i64 ((m : Int) + 1))) := ⟨_, rfl⟩
                try rw [← hwT]
                have HRT : Hid (Rr wT g s (m + 1) false) := by rw [hwT]; exact HR13.out
                have HGT : Hid (Gr g w wT) := by rw [hwT]; exact HG13.out
                have HXT : Hid (Buf wT w.heap.size u3 X) := by rw [hwT]; exact HX13.out
                have HLT : Hid (LetO s p2 (34 : UInt8) (m + 1) false) := HLX.out
                clear hwT
                have hszT := HGT.out.size
                have ho3 := run_oneI wT (34 : Int)
                have hk3 : (wT.alloc (.cells #[.int .u8 (34 : Int)] 5)).cell? ⟨wT.heap.size, 0, none⟩ = some (.int .u8 ((34 : UInt8)).toNat) := (Row.new wT _ 5).cell 0
                have HXA : Hid (Buf (wT.alloc (.cells #[.int .u8 (34 : Int)] 5)) w.heap.size u3 X) := HXT.out.keep (below_new (Below.refl _ _) _)
                have hszA : w.heap.size ≤ (wT.alloc (.cells #[.int .u8 (34 : Int)] 5)).heap.size := by simp; omega
                have hXl : X.length ≤ 1048576 := by have := HXl.out; omega
                go_wp2_with (refine ap_one rfl _ _ rfl w.heap.size _ _ rfl HXA.out (34 : UInt8) wT.heap.size 1 rfl hk3 (by omega) hszA ?_)
                intro v5 w5 hm5
                have HX5 : Hid (Buf w5 w.heap.size v5 (X ++ [(34 : UInt8)])) := hm5.buf
                have HG5 : Hid (Gr g w w5) := Gr.more (HGT.out.trans (Gr.of (below_new (Below.refl _ _) _))) HXA.out (Nat.le_refl _) hm5
                have HR5 : Hid (Rr w5 g s (m + 1) false) := (HRT.out.keep (below_new (Below.refl _ _) _)).more HXA.out hm5
                have HN5 : Hid (b = false → QIn s p (X ++ [(34 : UInt8)]) (m + 1) false) := fun _ => QIn.step HDr.out H34.out HLT.out
                have HM5 : Hid (leftR s g w5 < leftR s g wr) := by
                  show _ < _
                  have hle5 := HR5.out.le
                  rw [HL0.out, leftR_ok HR5.out]
                  omega
                have HXl5 : Hid ((X ++ [(34 : UInt8)]).length ≤ m + 1) := by
                  show _ ≤ _
                  have := HXl.out
                  rw [List.length_append, List.length_singleton]
                  omega
                clear hm5 HXA hk3 ho3 HRT HGT HXT HLT HXl HDr
                go_wp2
                go_roundw
                case rel => exact ⟨X ++ [(34 : UInt8)], m + 1, false, HX5, HR5, HG5, HN5, (fun h => by rw [hbf] at h; cases h), HXl5⟩
                case measure => exact HM5.out
              by_cases k92 : s[m] = 92
              · have hv1 : s[m].toNat = 92 := by rw [k92]; rfl
                have HLX : Hid (LetO s p2 (92 : UInt8) (m + 1) false) := by
                  have em := HM.out
                  subst em
                  exact let_sign hl1 H92.out (by rw [k92]; rfl)
                clear k92
                go_upto_region 24 with fail
                obtain ⟨wT, hwT⟩ : ∃ x, x = (w12.setCell ⟨g, 1, none⟩ (.int .i64 ((m : Int) + 1))) := ⟨_, rfl⟩
                try rw [← hwT]
                have HRT : Hid (Rr wT g s (m + 1) false) := by rw [hwT]; exact HR13.out
                have HGT : Hid (Gr g w wT) := by rw [hwT]; exact HG13.out
                have HXT : Hid (Buf wT w.heap.size u3 X) := by rw [hwT]; exact HX13.out
                have HLT : Hid (LetO s p2 (92 : UInt8) (m + 1) false) := HLX.out
                clear hwT
                have hszT := HGT.out.size
                have ho3 := run_oneI wT (92 : Int)
                have hk3 : (wT.alloc (.cells #[.int .u8 (92 : Int)] 5)).cell? ⟨wT.heap.size, 0, none⟩ = some (.int .u8 ((92 : UInt8)).toNat) := (Row.new wT _ 5).cell 0
                have HXA : Hid (Buf (wT.alloc (.cells #[.int .u8 (92 : Int)] 5)) w.heap.size u3 X) := HXT.out.keep (below_new (Below.refl _ _) _)
                have hszA : w.heap.size ≤ (wT.alloc (.cells #[.int .u8 (92 : Int)] 5)).heap.size := by simp; omega
                have hXl : X.length ≤ 1048576 := by have := HXl.out; omega
                go_wp2_with (refine ap_one rfl _ _ rfl w.heap.size _ _ rfl HXA.out (92 : UInt8) wT.heap.size 1 rfl hk3 (by omega) hszA ?_)
                intro v5 w5 hm5
                have HX5 : Hid (Buf w5 w.heap.size v5 (X ++ [(92 : UInt8)])) := hm5.buf
                have HG5 : Hid (Gr g w w5) := Gr.more (HGT.out.trans (Gr.of (below_new (Below.refl _ _) _))) HXA.out (Nat.le_refl _) hm5
                have HR5 : Hid (Rr w5 g s (m + 1) false) := (HRT.out.keep (below_new (Below.refl _ _) _)).more HXA.out hm5
                have HN5 : Hid (b = false → QIn s p (X ++ [(92 : UInt8)]) (m + 1) false) := fun _ => QIn.step HDr.out H34.out HLT.out
                have HM5 : Hid (leftR s g w5 < leftR s g wr) := by
                  show _ < _
                  have hle5 := HR5.out.le
                  rw [HL0.out, leftR_ok HR5.out]
                  omega
                have HXl5 : Hid ((X ++ [(92 : UInt8)]).length ≤ m + 1) := by
                  show _ ≤ _
                  have := HXl.out
                  rw [List.length_append, List.length_singleton]
                  omega
                clear hm5 HXA hk3 ho3 HRT HGT HXT HLT HXl HDr
                go_wp2
                go_roundw
                case rel => exact ⟨X ++ [(92 : UInt8)], m + 1, false, HX5, HR5, HG5, HN5, (fun h => by rw [hbf] at h; cases h), HXl5⟩
                case measure => exact HM5.out
              by_cases k110 : s[m] = 110
              · have hv1 : s[m].toNat = 110 := by rw [k110]; rfl
                have HLX : Hid (LetO s p2 (10 : UInt8) (m + 1) false) := by
                  have em := HM.out
                  subst em
                  exact let_sign hl1 H92.out (by rw [k110]; rfl)
                clear k110
                go_upto_region 24 with fail
                obtain ⟨wT, hwT⟩ : ∃ x, x = (w12.setCell ⟨g, 1, none⟩ (.int .i64 ((m : Int) + 1))) := ⟨_, rfl⟩
                try rw [← hwT]
                have HRT : Hid (Rr wT g s (m + 1) false) := by rw [hwT]; exact HR13.out
                have HGT : Hid (Gr g w wT) := by rw [hwT]; exact HG13.out
                have HXT : Hid (Buf wT w.heap.size u3 X) := by rw [hwT]; exact HX13.out
                have HLT : Hid (LetO s p2 (10 : UInt8) (m + 1) false) := HLX.out
                clear hwT
                have hszT := HGT.out.size
                have ho3 := run_oneI wT (10 : Int)
                have hk3 : (wT.alloc (.cells #[.int .u8 (10 : Int)] 5)).cell? ⟨wT.heap.size, 0, none⟩ = some (.int .u8 ((10 : UInt8)).toNat) := (Row.new wT _ 5).cell 0
                have HXA : Hid (Buf (wT.alloc (.cells #[.int .u8 (10 : Int)] 5)) w.heap.size u3 X) := HXT.out.keep (below_new (Below.refl _ _) _)
                have hszA : w.heap.size ≤ (wT.alloc (.cells #[.int .u8 (10 : Int)] 5)).heap.size := by simp; omega
                have hXl : X.length ≤ 1048576 := by have := HXl.out; omega
                go_wp2_with (refine ap_one rfl _ _ rfl w.heap.size _ _ rfl HXA.out (10 : UInt8) wT.heap.size 1 rfl hk3 (by omega) hszA ?_)
                intro v5 w5 hm5
                have HX5 : Hid (Buf w5 w.heap.size v5 (X ++ [(10 : UInt8)])) := hm5.buf
                have HG5 : Hid (Gr g w w5) := Gr.more (HGT.out.trans (Gr.of (below_new (Below.refl _ _) _))) HXA.out (Nat.le_refl _) hm5
                have HR5 : Hid (Rr w5 g s (m + 1) false) := (HRT.out.keep (below_new (Below.refl _ _) _)).more HXA.out hm5
                have HN5 : Hid (b = false → QIn s p (X ++ [(10 : UInt8)]) (m + 1) false) := fun _ => QIn.step HDr.out H34.out HLT.out
                have HM5 : Hid (leftR s g w5 < leftR s g wr) := by
                  show _ < _
                  have hle5 := HR5.out.le
                  rw [HL0.out, leftR_ok HR5.out]
                  omega
                have HXl5 : Hid ((X ++ [(10 : UInt8)]).length ≤ m + 1) := by
                  show _ ≤ _
                  have := HXl.out
                  rw [List.length_append, List.length_singleton]
                  omega
                clear hm5 HXA hk3 ho3 HRT HGT HXT HLT HXl HDr
                go_wp2
                go_roundw
                case rel => exact ⟨X ++ [(10 : UInt8)], m + 1, false, HX5, HR5, HG5, HN5, (fun h => by rw [hbf] at h; cases h), HXl5⟩
                case measure => exact HM5.out
              by_cases k114 : s[m] = 114
              · have hv1 : s[m].toNat = 114 := by rw [k114]; rfl
                have HLX : Hid (LetO s p2 (13 : UInt8) (m + 1) false) := by
                  have em := HM.out
                  subst em
                  exact let_sign hl1 H92.out (by rw [k114]; rfl)
                clear k114
                go_upto_region 24 with fail
                obtain ⟨wT, hwT⟩ : ∃ x, x = (w12.setCell ⟨g, 1, none⟩ (.int .i64 ((m : Int) + 1))) := ⟨_, rfl⟩
                try rw [← hwT]
                have HRT : Hid (Rr wT g s (m + 1) false) := by rw [hwT]; exact HR13.out
                have HGT : Hid (Gr g w wT) := by rw [hwT]; exact HG13.out
                have HXT : Hid (Buf wT w.heap.size u3 X) := by rw [hwT]; exact HX13.out
                have HLT : Hid (LetO s p2 (13 : UInt8) (m + 1) false) := HLX.out
                clear hwT
                have hszT := HGT.out.size
                have ho3 := run_oneI wT (13 : Int)
                have hk3 : (wT.alloc (.cells #[.int .u8 (13 : Int)] 5)).cell? ⟨wT.heap.size, 0, none⟩ = some (.int .u8 ((13 : UInt8)).toNat) := (Row.new wT _ 5).cell 0
                have HXA : Hid (Buf (wT.alloc (.cells #[.int .u8 (13 : Int)] 5)) w.heap.size u3 X) := HXT.out.keep (below_new (Below.refl _ _) _)
                have hszA : w.heap.size ≤ (wT.alloc (.cells #[.int .u8 (13 : Int)] 5)).heap.size := by simp; omega
                have hXl : X.length ≤ 1048576 := by have := HXl.out; omega
                go_wp2_with (refine ap_one rfl _ _ rfl w.heap.size _ _ rfl HXA.out (13 : UInt8) wT.heap.size 1 rfl hk3 (by omega) hszA ?_)
                intro v5 w5 hm5
                have HX5 : Hid (Buf w5 w.heap.size v5 (X ++ [(13 : UInt8)])) := hm5.buf
                have HG5 : Hid (Gr g w w5) := Gr.more (HGT.out.trans (Gr.of (below_new (Below.refl _ _) _))) HXA.out (Nat.le_refl _) hm5
                have HR5 : Hid (Rr w5 g s (m + 1) false) := (HRT.out.keep (below_new (Below.refl _ _) _)).more HXA.out hm5
                have HN5 : Hid (b = false → QIn s p (X ++ [(13 : UInt8)]) (m + 1) false) := fun _ => QIn.step HDr.out H34.out HLT.out
                have HM5 : Hid (leftR s g w5 < leftR s g wr) := by
                  show _ < _
                  have hle5 := HR5.out.le
                  rw [HL0.out, leftR_ok HR5.out]
                  omega
                have HXl5 : Hid ((X ++ [(13 : UInt8)]).length ≤ m + 1) := by
                  show _ ≤ _
                  have := HXl.out
                  rw [List.length_append, List.length_singleton]
                  omega
                clear hm5 HXA hk3 ho3 HRT HGT HXT HLT HXl HDr
                go_wp2
                go_roundw
                case rel => exact ⟨X ++ [(13 : UInt8)], m + 1, false, HX5, HR5, HG5, HN5, (fun h => by rw [hbf] at h; cases h), HXl5⟩
                case measure => exact HM5.out
              by_cases k116 : s[m] = 116
              · have hv1 : s[m].toNat = 116 := by rw [k116]; rfl
                have HLX : Hid (LetO s p2 (9 : UInt8) (m + 1) false) := by
                  have em := HM.out
                  subst em
                  exact let_sign hl1 H92.out (by rw [k116]; rfl)
                clear k116
                go_upto_region 24 with fail
                obtain ⟨wT, hwT⟩ : ∃ x, x = (w12.setCell ⟨g, 1, none⟩ (.int .i64 ((m : Int) + 1))) := ⟨_, rfl⟩
                try rw [← hwT]
                have HRT : Hid (Rr wT g s (m + 1) false) := by rw [hwT]; exact HR13.out
                have HGT : Hid (Gr g w wT) := by rw [hwT]; exact HG13.out
                have HXT : Hid (Buf wT w.heap.size u3 X) := by rw [hwT]; exact HX13.out
                have HLT : Hid (LetO s p2 (9 : UInt8) (m + 1) false) := HLX.out
                clear hwT
                have hszT := HGT.out.size
                have ho3 := run_oneI wT (9 : Int)
                have hk3 : (wT.alloc (.cells #[.int .u8 (9 : Int)] 5)).cell? ⟨wT.heap.size, 0, none⟩ = some (.int .u8 ((9 : UInt8)).toNat) := (Row.new wT _ 5).cell 0
                have HXA : Hid (Buf (wT.alloc (.cells #[.int .u8 (9 : Int)] 5)) w.heap.size u3 X) := HXT.out.keep (below_new (Below.refl _ _) _)
                have hszA : w.heap.size ≤ (wT.alloc (.cells #[.int .u8 (9 : Int)] 5)).heap.size := by simp; omega
                have hXl : X.length ≤ 1048576 := by have := HXl.out; omega
                go_wp2_with (refine ap_one rfl _ _ rfl w.heap.size _ _ rfl HXA.out (9 : UInt8) wT.heap.size 1 rfl hk3 (by omega) hszA ?_)
                intro v5 w5 hm5
                have HX5 : Hid (Buf w5 w.heap.size v5 (X ++ [(9 : UInt8)])) := hm5.buf
                have HG5 : Hid (Gr g w w5) := Gr.more (HGT.out.trans (Gr.of (below_new (Below.refl _ _) _))) HXA.out (Nat.le_refl _) hm5
                have HR5 : Hid (Rr w5 g s (m + 1) false) := (HRT.out.keep (below_new (Below.refl _ _) _)).more HXA.out hm5
                have HN5 : Hid (b = false → QIn s p (X ++ [(9 : UInt8)]) (m + 1) false) := fun _ => QIn.step HDr.out H34.out HLT.out
                have HM5 : Hid (leftR s g w5 < leftR s g wr) := by
                  show _ < _
                  have hle5 := HR5.out.le
                  rw [HL0.out, leftR_ok HR5.out]
                  omega
                have HXl5 : Hid ((X ++ [(9 : UInt8)]).length ≤ m + 1) := by
                  show _ ≤ _
                  have := HXl.out
                  rw [List.length_append, List.length_singleton]
                  omega
                clear hm5 HXA hk3 ho3 HRT HGT HXT HLT HXl HDr
                go_wp2
                go_roundw
                case rel => exact ⟨X ++ [(9 : UInt8)], m + 1, false, HX5, HR5, HG5, HN5, (fun h => by rw [hbf] at h; cases h), HXl5⟩
                case measure => exact HM5.out
              have HNR : Hid (∀ c' r, (bl s).drop p2 ≠ escU c' ++ r) := by
                have em := HM.out
                subst em
                exact no_sign (by omega) H92.out (fun _ => by unfold meantN; simp [k34, k92, k110, k114, k116])
              have e34 : ((s[m].toNat : Int) == 34) = false := u8_neq (a := 34) k34
              have e92 : ((s[m].toNat : Int) == 92) = false := u8_neq (a := 92) k92
              have e110 : ((s[m].toNat : Int) == 110) = false := u8_neq (a := 110) k110
              have e114 : ((s[m].toNat : Int) == 114) = false := u8_neq (a := 114) k114
              have e116 : ((s[m].toNat : Int) == 116) = false := u8_neq (a := 116) k116
              clear k34 k92 k110 k114 k116
              go_upto_region 24 with fail
              obtain ⟨wT, hwT⟩ : ∃ x, x = (w12.setCell ⟨g, 1, none⟩ (.int .i64 ((m : Int) + 1))).setCell ⟨g, 2, none⟩ (.bool true) := ⟨_, rfl⟩
              try rw [← hwT]
              have HRT : Hid (Rr wT g s (m + 1) true) := by rw [hwT]; exact HR13.out.bad
              have HGT : Hid (Gr g w wT) := by rw [hwT]; exact HG13.out.trans (gr_set _)
              have HXT : Hid (Buf wT w.heap.size u3 X) := by rw [hwT]; exact HX13.out.gr (gr_set _) hgl
              have HLT : Hid (LetO s p2 s[m] (m + 1) true) := ⟨by omega, .inr (.inr ⟨rfl, HNR.out⟩)⟩
              clear hwT
              have hszT := HGT.out.size
              have ho3 := run_oneI wT (s[m].toNat : Int)
              have hk3 : (wT.alloc (.cells #[.int .u8 (s[m].toNat : Int)] 5)).cell? ⟨wT.heap.size, 0, none⟩ = some (.int .u8 (s[m]).toNat) := (Row.new wT _ 5).cell 0
              have HXA : Hid (Buf (wT.alloc (.cells #[.int .u8 (s[m].toNat : Int)] 5)) w.heap.size u3 X) := HXT.out.keep (below_new (Below.refl _ _) _)
              have hszA : w.heap.size ≤ (wT.alloc (.cells #[.int .u8 (s[m].toNat : Int)] 5)).heap.size := by simp; omega
              have hXl : X.length ≤ 1048576 := by have := HXl.out; omega
              go_wp2_with (refine ap_one rfl _ _ rfl w.heap.size _ _ rfl HXA.out s[m] wT.heap.size 1 rfl hk3 (by omega) hszA ?_)
              intro v5 w5 hm5
              have HX5 : Hid (Buf w5 w.heap.size v5 (X ++ [s[m]])) := hm5.buf
              have HG5 : Hid (Gr g w w5) := Gr.more (HGT.out.trans (Gr.of (below_new (Below.refl _ _) _))) HXA.out (Nat.le_refl _) hm5
              have HR5 : Hid (Rr w5 g s (m + 1) true) := (HRT.out.keep (below_new (Below.refl _ _) _)).more HXA.out hm5
              have HN5 : Hid (b = false → QIn s p (X ++ [s[m]]) (m + 1) true) := fun _ => QIn.step HDr.out H34.out HLT.out
              have HM5 : Hid (leftR s g w5 < leftR s g wr) := by
                show _ < _
                have hle5 := HR5.out.le
                rw [HL0.out, leftR_bad HR5.out]
                omega
              have HXl5 : Hid ((X ++ [s[m]]).length ≤ m + 1) := by
                show _ ≤ _
                have := HXl.out
                rw [List.length_append, List.length_singleton]
                omega
              clear hm5 HXA hk3 ho3 HRT HGT HXT HLT HXl HDr
              go_wp2
              go_roundw
              case rel => exact ⟨X ++ [s[m]], m + 1, true, HX5, HR5, HG5, HN5, (fun _ => rfl), HXl5⟩
              case measure => exact HM5.out
            · have hdec1 : decide ((p2 : Int) + 1 < (s.size : Int)) = false := decide_eq_false (by omega)
              have HNR : Hid (∀ c' r, (bl s).drop p2 ≠ escU c' ++ r) := no_sign hlt h92 (fun h => absurd h hl1)
              clear h92 h10 h13 h9 h34
              go_wp2
              go_quiet (fail)
              obtain ⟨wT, hwT⟩ : ∃ x, x = ((w7.setCell ⟨g, 1, none⟩ (.int .i64 ((p2 : Int) + 1)))).drewN nq := ⟨_, rfl⟩
              try rw [← hwT]
              have HRT : Hid (Rr wT g s (p2 + 1) false) := by rw [hwT]; exact HR8.out.keep (below_drewN (Below.refl _ _) nq)
              have HGT : Hid (Gr g w wT) := by rw [hwT]; exact HG8.out.trans (drewN_gr g _ nq)
              have HXT : Hid (Buf wT w.heap.size u3 X) := by rw [hwT]; exact HX8.out.keep (below_drewN (Below.refl _ _) nq)
              have HLT : Hid (LetO s p2 (92 : UInt8) (p2 + 1) false) := ⟨by omega, .inr (.inl ⟨rfl, by omega, HNR.out⟩)⟩
              clear hwT
              have hszT := HGT.out.size
              have ho3 := run_oneI wT (92 : Int)
              have hk3 : (wT.alloc (.cells #[.int .u8 (92 : Int)] 5)).cell? ⟨wT.heap.size, 0, none⟩ = some (.int .u8 ((92 : UInt8)).toNat) := (Row.new wT _ 5).cell 0
              have HXA : Hid (Buf (wT.alloc (.cells #[.int .u8 (92 : Int)] 5)) w.heap.size u3 X) := HXT.out.keep (below_new (Below.refl _ _) _)
              have hszA : w.heap.size ≤ (wT.alloc (.cells #[.int .u8 (92 : Int)] 5)).heap.size := by simp; omega
              have hXl : X.length ≤ 1048576 := by have := HXl.out; omega
              go_wp2_with (refine ap_one rfl _ _ rfl w.heap.size _ _ rfl HXA.out (92 : UInt8) wT.heap.size 1 rfl hk3 (by omega) hszA ?_)
              intro v5 w5 hm5
              have HX5 : Hid (Buf w5 w.heap.size v5 (X ++ [(92 : UInt8)])) := hm5.buf
              have HG5 : Hid (Gr g w w5) := Gr.more (HGT.out.trans (Gr.of (below_new (Below.refl _ _) _))) HXA.out (Nat.le_refl _) hm5
              have HR5 : Hid (Rr w5 g s (p2 + 1) false) := (HRT.out.keep (below_new (Below.refl _ _) _)).more HXA.out hm5
              have HN5 : Hid (b = false → QIn s p (X ++ [(92 : UInt8)]) (p2 + 1) false) := fun _ => QIn.step HDr.out H34.out HLT.out
              have HM5 : Hid (leftR s g w5 < leftR s g wr) := by
                show _ < _
                have hle5 := HR5.out.le
                rw [HL0.out, leftR_ok HR5.out]
                omega
              have HXl5 : Hid ((X ++ [(92 : UInt8)]).length ≤ p2 + 1) := by
                show _ ≤ _
                have := HXl.out
                rw [List.length_append, List.length_singleton]
                omega
              clear hm5 HXA hk3 ho3 HRT HGT HXT HLT HXl HDr
              go_wp2
              go_roundw
              case rel => exact ⟨X ++ [(92 : UInt8)], p2 + 1, false, HX5, HR5, HG5, HN5, (fun h => by rw [hbf] at h; cases h), HXl5⟩
              case measure => exact HM5.out
          have HLX : Hid (LetO s p2 s[p2] (p2 + 1) false) := let_plain hlt (by unfold signN; simp [h34, h92, h10, h13, h9])
          have e10 : ((s[p2].toNat : Int) == 10) = false := u8_neq (a := 10) h10
          have e13 : ((s[p2].toNat : Int) == 13) = false := u8_neq (a := 13) h13
          have e9 : ((s[p2].toNat : Int) == 9) = false := u8_neq (a := 9) h9
          have e92 : ((s[p2].toNat : Int) == 92) = false := u8_neq (a := 92) h92
          clear h92 h10 h13 h9 h34
          go_wp2
          go_quiet (fail)
          obtain ⟨wT, hwT⟩ : ∃ x, x = ((w7.setCell ⟨g, 1, none⟩ (.int .i64 ((p2 : Int) + 1)))).drewN nq := ⟨_, rfl⟩
          try rw [← hwT]
          have HRT : Hid (Rr wT g s (p2 + 1) false) := by rw [hwT]; exact HR8.out.keep (below_drewN (Below.refl _ _) nq)
          have HGT : Hid (Gr g w wT) := by rw [hwT]; exact HG8.out.trans (drewN_gr g _ nq)
          have HXT : Hid (Buf wT w.heap.size u3 X) := by rw [hwT]; exact HX8.out.keep (below_drewN (Below.refl _ _) nq)
          have HLT : Hid (LetO s p2 s[p2] (p2 + 1) false) := HLX.out
          clear hwT
          have hszT := HGT.out.size
          have ho3 := run_oneI wT (s[p2].toNat : Int)
          have hk3 : (wT.alloc (.cells #[.int .u8 (s[p2].toNat : Int)] 5)).cell? ⟨wT.heap.size, 0, none⟩ = some (.int .u8 (s[p2]).toNat) := (Row.new wT _ 5).cell 0
          have HXA : Hid (Buf (wT.alloc (.cells #[.int .u8 (s[p2].toNat : Int)] 5)) w.heap.size u3 X) := HXT.out.keep (below_new (Below.refl _ _) _)
          have hszA : w.heap.size ≤ (wT.alloc (.cells #[.int .u8 (s[p2].toNat : Int)] 5)).heap.size := by simp; omega
          have hXl : X.length ≤ 1048576 := by have := HXl.out; omega
          go_wp2_with (refine ap_one rfl _ _ rfl w.heap.size _ _ rfl HXA.out s[p2] wT.heap.size 1 rfl hk3 (by omega) hszA ?_)
          intro v5 w5 hm5
          have HX5 : Hid (Buf w5 w.heap.size v5 (X ++ [s[p2]])) := hm5.buf
          have HG5 : Hid (Gr g w w5) := Gr.more (HGT.out.trans (Gr.of (below_new (Below.refl _ _) _))) HXA.out (Nat.le_refl _) hm5
          have HR5 : Hid (Rr w5 g s (p2 + 1) false) := (HRT.out.keep (below_new (Below.refl _ _) _)).more HXA.out hm5
          have HN5 : Hid (b = false → QIn s p (X ++ [s[p2]]) (p2 + 1) false) := fun _ => QIn.step HDr.out H34.out HLT.out
          have HM5 : Hid (leftR s g w5 < leftR s g wr) := by
            show _ < _
            have hle5 := HR5.out.le
            rw [HL0.out, leftR_ok HR5.out]
            omega
          have HXl5 : Hid ((X ++ [s[p2]]).length ≤ p2 + 1) := by
            show _ ≤ _
            have := HXl.out
            rw [List.length_append, List.length_singleton]
            omega
          clear hm5 HXA hk3 ho3 HRT HGT HXT HLT HXl HDr
          go_wp2
          go_roundw
          case rel => exact ⟨X ++ [s[p2]], p2 + 1, false, HX5, HR5, HG5, HN5, (fun h => by rw [hbf] at h; cases h), HXl5⟩
          case measure => exact HM5.out
        · have hdec : decide ((s.size : Int) ≤ (p2 : Int)) = true := decide_eq_true (by omega)
          have HNO : Hid (∀ y r, (bl s).drop p ≠ strE y ++ r) := by
            rcases (HN.out hbf).1 rfl with h | ⟨_, h⟩
            · refine QIn.no h H34.out (fun c' r e => ?_)
              rw [List.drop_of_length_le (by omega)] at e
              exact absurd e.symm (by simp [escU]; intro h; split at h <;> simp at h)
            · exact h
          have HB : Hid (∀ n, Rr ((w2.drewN n).setCell ⟨g, 2, none⟩ (.bool true)) g s p2 true ∧ Gr g w ((w2.drewN n).setCell ⟨g, 2, none⟩ (.bool true))) := fun n =>
            ⟨(HR2.out.keep (below_drewN (Below.refl _ _) n)).bad, (HG2.out.trans (drewN_gr g w2 n)).trans (gr_set _)⟩
          clear HN HT2 HX2
          go_wp2
          go_quiet (fail)
          have HE : Hid (ReadsR strE (fun _ v x => v = .string x) g s p b w (.returned (.string ⟨#[]⟩)) ((w2.drewN nq).setCell ⟨g, 2, none⟩ (.bool true))) :=
            ⟨(HB.out nq).2, _, ⟨#[]⟩, p2, true, rfl, rfl, (HB.out nq).1, fun _ => rfl, fun _ => .inr ⟨rfl, HNO.out⟩⟩
          go_wp2
          exact HRP.out _ _ HE.out
end Go.Proofs.YtmpgfepkdhjibaaDoor
