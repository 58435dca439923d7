/- My own work: the document's own reader of derivations: take, next, more. -/
import Derived.Test.YtmpgfepkdhjibaaDoorRd8d
import Derived.BigQuiet
namespace Go.Proofs.YtmpgfepkdhjibaaDoor
open Go.RowKit

/-- The document's reader, that has read so many bytes. -/
structure Rr (w : World) (g : Nat) (s : ByteArray) (p : Nat) (b : Bool) : Prop where
  row : Row w g #[.string s, .int .i64 p, .bool b] 69
  le : p ≤ s.size
  small : s.size ≤ 1048576
theorem Rr.keep {w w' : World} {g : Nat} {s : ByteArray} {p : Nat} {b : Bool} (h : Rr w g s p b) (hb : Below w.heap.size w w') : Rr w' g s p b := ⟨h.row.below hb h.row.lt, h.le, h.small⟩
theorem Oc.stay {α : Type} {E : α → List UInt8} {s : ByteArray} {p p' : Nat} {x : α} : Oc E s p true x p' true := ⟨fun _ => rfl, fun h => absurd h (by decide)⟩
theorem pre_eq (s : ByteArray) (p : Nat) (x : ByteArray) : ((s.extract p (p + x.size)).toList == x.toList) = preB (bl x) ((bl s).drop p) := by
  have e : (s.extract p (p + x.size)).data.toList = ((bl s).drop p).take x.size := by
    simp only [ByteArray.data_extract, Array.toList_extract, List.extract_eq_take_drop]
    congr 1
    omega
  unfold preB
  rw [ByteArray.toList_eq, ByteArray.toList_eq, bl_len, e]
theorem Row.drewN {w : World} {g : Nat} {C : Array Value} {t : TypeId} (h : Row w g C t) (n : Nat) : Row (w.drewN n) g C t := h
theorem below_drewN {B : Nat} {w w' : World} (h : Below B w w') (n : Nat) : Below B w (w'.drewN n) := ⟨h.os, h.tape, h.output, h.size, h.block⟩
theorem drewN_gr (g : Nat) (w : World) (n : Nat) : Gr g w (w.drewN n) := Gr.of (below_drewN (Below.refl _ _) n)
theorem slice_str (s : ByteArray) (p n : Nat) (h : p + n ≤ s.size) (w : World) : (Instr.slice 9 (.string s) (some (.int .i64 (p : Int))) (some (.int .i64 ((p : Int) + (n : Int)))) none).run Tryd.prog w = .ok (.string (s.extract p (p + n))) w := by
  have e : (p : Int) + (n : Int) = ((p + n : Nat) : Int) := by omega
  have h1 : ((p : Int) ≤ ((p + n : Nat) : Int)) := by omega
  have h2 : (((p + n : Nat) : Int) ≤ (s.size : Int)) := by omega
  rw [e]
  obtain ⟨m, hm⟩ : ∃ m, m = p + n := ⟨_, rfl⟩
  rw [← hm] at h1 h2 ⊢
  clear e hm h
  go_simp
set_option maxRecDepth 20000 in
set_option maxHeartbeats 4000000 in
theorem take_ok (g : Nat) (s : ByteArray) (p : Nat) (b : Bool) (x : ByteArray) (w : World) (h : Rr w g s p b) : Calls Tryd.prog 27 #[.pointer (some ⟨g, 0, none⟩), .string x] w fun r w' => (∃ v, r = .returned v) ∧ Gr g w w' ∧ ∃ p' b', Rr w' g s p' b' ∧ Oc (conE (bl x)) s p b () p' b' := by
  have hr := h.row
  have hle := h.le
  have hsm := h.small
  have c0 := (hr.cell 0).trans (rfl : _ = some (Value.string s))
  have c1 := (hr.cell 1).trans (rfl : _ = some (Value.int .i64 p))
  have c2 := (hr.cell 2).trans (rfl : _ = some (Value.bool b))
  have z1 := hr.frozen 1
  have z2 := hr.frozen 2
  have hxl := bl_len x
  have HB : Hid (∀ n, (∃ p' b', Rr ((w.drewN n).setCell ⟨g, 2, none⟩ (.bool true)) g s p' b' ∧ (b' = true ∧ p' = p)) ∧ Gr g w ((w.drewN n).setCell ⟨g, 2, none⟩ (.bool true))) := fun n =>
    ⟨⟨p, true, ⟨(Row.drewN hr n).setCell _, hle, hsm⟩, rfl, rfl⟩, (drewN_gr g w n).trans (gr_set _)⟩
  cases b with
  | true =>
    clear h hr
    go_enter Tryd.func27, Tryd.ntmps27
    go_wp2
    go_quiet (fail)
    go_wp2
    refine bodyPost_ret (results_none rfl _ _ _) rfl ?_
    exact ⟨⟨_, rfl⟩, (HB.out nq).2, (HB.out nq).1.imp fun p' ⟨b', h1, h2, h3⟩ => ⟨b', h1, by rw [h2]; exact Oc.stay⟩⟩
  | false =>
    have hwr : IntKind.i64.wrap ((s.size : Int) - p) = (s.size : Int) - p := by rw [IntKind.wrap_i64]; omega
    by_cases hlen : s.size - p < x.size
    · have HN : Hid (∀ r, (bl s).drop p ≠ bl x ++ r) := fun r e => by
        have := congrArg List.length e
        rw [List.length_drop, List.length_append, bl_len, bl_len] at this
        omega
      have hdec : decide ((s.size : Int) - p < x.size) = true := decide_eq_true (by omega)
      clear h hr
      go_enter Tryd.func27, Tryd.ntmps27
      go_wp2
      go_quiet (fail)
      go_wp2
      refine bodyPost_ret (results_none rfl _ _ _) rfl ?_
      exact ⟨⟨_, rfl⟩, (HB.out nq).2, (HB.out nq).1.imp fun p' ⟨b', h1, h2, h3⟩ => ⟨b', h1, by rw [h2]; exact ⟨fun _ => rfl, fun _ => .inr ⟨rfl, fun _ r => HN.out r⟩⟩⟩⟩
    · have hpe := pre_eq s p x
      have hlen' : p + x.size ≤ s.size := by omega
      have hdec : decide ((s.size : Int) - p < x.size) = false := decide_eq_false (by omega)
      have hwr2 : IntKind.i64.wrap ((p : Int) + x.size) = (p : Int) + x.size := by rw [IntKind.wrap_i64]; omega
      have hsl := slice_str s p x.size hlen'
      cases hq : preB (bl x) ((bl s).drop p) with
      | false =>
        have HN : Hid (∀ r, (bl s).drop p ≠ bl x ++ r) := fun r => pre_no hq r
        have hne : ((s.extract p (p + x.size)).toList == x.toList) = false := hpe.trans hq
        clear h hr hpe hq
        go_enter Tryd.func27, Tryd.ntmps27
        go_wp2
        go_quiet (fail)
        go_wp2
        refine bodyPost_ret (results_none rfl _ _ _) rfl ?_
        exact ⟨⟨_, rfl⟩, (HB.out nq).2, (HB.out nq).1.imp fun p' ⟨b', h1, h2, h3⟩ => ⟨b', h1, by rw [h2]; exact ⟨fun _ => rfl, fun _ => .inr ⟨rfl, fun _ r => HN.out r⟩⟩⟩⟩
      | true =>
        have HY : Hid ((bl s).drop p = bl x ++ (bl s).drop (p + x.size)) := by
          show _ = _
          have := pre_yes hq
          rw [List.drop_drop, bl_len] at this
          exact this
        have hne : ((s.extract p (p + x.size)).toList == x.toList) = true := hpe.trans hq
        have HE : Hid (∀ n, Rr ((w.drewN n).setCell ⟨g, 1, none⟩ (.int .i64 ((p : Int) + x.size))) g s (p + x.size) false ∧ Gr g w ((w.drewN n).setCell ⟨g, 1, none⟩ (.int .i64 ((p : Int) + x.size)))) := fun n =>
          ⟨⟨(Row.drewN hr n).setCell _, hlen', hsm⟩, (drewN_gr g w n).trans (gr_set _)⟩
        clear h hr hpe hq
        go_enter Tryd.func27, Tryd.ntmps27
        go_wp2
        go_quiet (fail)
        go_wp2
        go_end0
        exact ⟨⟨_, rfl⟩, (HE.out nq).2, _, _, (HE.out nq).1, fun e => absurd e (by decide), fun _ => .inl ⟨rfl, HY.out⟩⟩
set_option maxRecDepth 20000 in
set_option maxHeartbeats 4000000 in
theorem nextR_ok (g : Nat) (s : ByteArray) (p : Nat) (b : Bool) (c : UInt8) (w : World) (h : Rr w g s p b) : Calls Tryd.prog 54 #[.pointer (some ⟨g, 0, none⟩), .int .u8 c.toNat] w fun r w' => r = .returned (.bool (!b && decide (((bl s).drop p).head? = some c))) ∧ Below w.heap.size w w' := by
  have hr := h.row
  have hle := h.le
  have hsm := h.small
  have c0 := (hr.cell 0).trans (rfl : _ = some (Value.string s))
  have c1 := (hr.cell 1).trans (rfl : _ = some (Value.int .i64 p))
  have c2 := (hr.cell 2).trans (rfl : _ = some (Value.bool b))
  have HB : Hid (∀ n, Below w.heap.size w (w.drewN n)) := fun n => below_drewN (Below.refl _ _) n
  clear h hr
  cases b with
  | true =>
    go_enter Tryd.func54, Tryd.ntmps54
    go_wp2
    go_quiet (fail)
    go_wp2
    go_ret
    exact ⟨rfl, HB.out nq⟩
  | false =>
    by_cases hlt : p < s.size
    · have HH : Hid (((s[p].toNat : Int) == (c.toNat : Int)) = (!false && decide (((bl s).drop p).head? = some c))) := by
        show _ = _
        have hp : p < (bl s).length := by rw [bl_len]; exact hlt
        rw [List.drop_eq_getElem_cons hp, Bool.eq_iff_iff]
        show ((s[p].toNat : Int) == (c.toNat : Int)) = true ↔ (true && decide (some s[p] = some c)) = true
        simp only [Bool.true_and, decide_eq_true_eq, beq_iff_eq, Option.some.injEq]
        exact ⟨fun e => UInt8.toNat_inj.1 (by omega), fun e => by rw [e]⟩
      go_enter Tryd.func54, Tryd.ntmps54
      go_wp2
      go_quiet (fail)
      go_wp2
      go_ret
      exact ⟨by rw [← HH.out]; rfl, HB.out nq⟩
    · have HH : Hid ((!false && decide (((bl s).drop p).head? = some c)) = false) := by
        show _ = _
        rw [List.drop_of_length_le (by rw [bl_len]; omega)]
        rfl
      go_enter Tryd.func54, Tryd.ntmps54
      go_wp2
      go_quiet (fail)
      go_wp2
      go_ret
      exact ⟨by rw [HH.out]; rfl, HB.out nq⟩
/-- How 'does another element come' ends, behind n elements. -/
def MoreP (g : Nat) (s : ByteArray) (p : Nat) (b : Bool) (n : Nat) (r : Ending) (w' : World) : Prop :=
  (b = true ∧ r = .returned (.bool false) ∧ ∃ p', Rr w' g s p' true) ∨
  (b = false ∧ ((bl s).drop p).head? = some 93 ∧ r = .returned (.bool false) ∧ ∃ p' b', Rr w' g s p' b' ∧ Oc (conE [93]) s p false () p' b') ∨
  (b = false ∧ ((bl s).drop p).head? ≠ some 93 ∧ n = 0 ∧ r = .returned (.bool true) ∧ Rr w' g s p false) ∨
  (b = false ∧ ((bl s).drop p).head? ≠ some 93 ∧ 0 < n ∧ ∃ p' b', r = .returned (.bool (!b')) ∧ Rr w' g s p' b' ∧ Oc (conE [44]) s p false () p' b')
set_option maxRecDepth 20000 in
set_option maxHeartbeats 4000000 in
theorem more_ok (g : Nat) (s : ByteArray) (p : Nat) (b : Bool) (n : Nat) (w : World) (h : Rr w g s p b) (hn : n ≤ 140737488355328) : Calls Tryd.prog 28 #[.pointer (some ⟨g, 0, none⟩), .int .i64 n] w fun r w' => MoreP g s p b n r w' ∧ Gr g w w' := by
  obtain ⟨RP, hRP⟩ : ∃ RP, RP = fun r w' => MoreP g s p b n r w' ∧ Gr g w w' := ⟨_, rfl⟩
  have HRP : Hid (∀ r w', MoreP g s p b n r w' → Gr g w w' → RP r w') := fun r w' h1 h2 => by rw [hRP]; exact ⟨h1, h2⟩
  rw [← hRP]
  have HN := nextR_ok g s p b 93 w h
  have HR : Hid (Rr w g s p b) := h
  clear h hRP
  cases b with
  | true =>
    go_enter Tryd.func28, Tryd.ntmps28
    go_wp2_with fail
    refine Calls.mono HN ?_
    rintro e w1 ⟨rfl, hb1⟩
    have HR1 : Hid (Rr w1 g s p true) := HR.out.keep hb1
    have HG1 : Hid (Gr g w w1) := Gr.of hb1
    clear HN hb1
    by_cases h0 : 0 < n
    · have HT := take_ok g s p true ⟨#[44]⟩ w1 HR1.out
      go_wp2_with fail
      refine Calls.mono HT ?_
      rintro e w2 ⟨⟨v, rfl⟩, hg2, p2, b2, hr2, ho2⟩
      obtain rfl : b2 = true := ho2.1 rfl
      have c2 := (hr2.row.cell 2).trans (rfl : _ = some (Value.bool true))
      have HE : Hid (MoreP g s p true n (.returned (.bool false)) w2 ∧ Gr g w w2) := ⟨.inl ⟨rfl, rfl, p2, hr2⟩, HG1.out.trans hg2⟩
      clear hr2 hg2 HT ho2
      go_wp2
      exact HRP.out _ _ HE.out.1 HE.out.2
    · have c2 := (HR1.out.row.cell 2).trans (rfl : _ = some (Value.bool true))
      have HE : Hid (MoreP g s p true n (.returned (.bool false)) w1 ∧ Gr g w w1) := ⟨.inl ⟨rfl, rfl, p, HR1.out⟩, HG1.out⟩
      go_wp2
      exact HRP.out _ _ HE.out.1 HE.out.2
  | false =>
    by_cases h93 : ((bl s).drop p).head? = some 93
    · rw [decide_eq_true h93] at HN
      have H93 : Hid _ := h93
      clear h93
      go_enter Tryd.func28, Tryd.ntmps28
      go_wp2_with fail
      refine Calls.mono HN ?_
      rintro e w1 ⟨rfl, hb1⟩
      have HR1 : Hid (Rr w1 g s p false) := HR.out.keep hb1
      have HG1 : Hid (Gr g w w1) := Gr.of hb1
      clear HN hb1
      have HT := take_ok g s p false ⟨#[93]⟩ w1 HR1.out
      go_wp2_with fail
      refine Calls.mono HT ?_
      rintro e w2 ⟨⟨v, rfl⟩, hg2, p2, b2, hr2, ho2⟩
      have HE : Hid (MoreP g s p false n (.returned (.bool false)) w2 ∧ Gr g w w2) := ⟨.inr (.inl ⟨rfl, H93.out, rfl, p2, b2, hr2, ho2⟩), HG1.out.trans hg2⟩
      clear hr2 hg2 HT ho2
      go_wp2
      exact HRP.out _ _ HE.out.1 HE.out.2
    · rw [decide_eq_false h93] at HN
      have H93 : Hid _ := h93
      clear h93
      go_enter Tryd.func28, Tryd.ntmps28
      go_wp2_with fail
      refine Calls.mono HN ?_
      rintro e w1 ⟨rfl, hb1⟩
      have HR1 : Hid (Rr w1 g s p false) := HR.out.keep hb1
      have HG1 : Hid (Gr g w w1) := Gr.of hb1
      clear HN hb1
      by_cases h0 : 0 < n
      · have HT := take_ok g s p false ⟨#[44]⟩ w1 HR1.out
        go_wp2_with fail
        refine Calls.mono HT ?_
        rintro e w2 ⟨⟨v, rfl⟩, hg2, p2, b2, hr2, ho2⟩
        have c2 := (hr2.row.cell 2).trans (rfl : _ = some (Value.bool b2))
        have HE : Hid (MoreP g s p false n (.returned (.bool (!b2))) w2 ∧ Gr g w w2) := ⟨.inr (.inr (.inr ⟨rfl, H93.out, h0, p2, b2, rfl, hr2, ho2⟩)), HG1.out.trans hg2⟩
        clear hr2 hg2 HT ho2
        go_wp2
        exact HRP.out _ _ HE.out.1 HE.out.2
      · have c2 := (HR1.out.row.cell 2).trans (rfl : _ = some (Value.bool false))
        have HE : Hid (MoreP g s p false n (.returned (.bool true)) w1 ∧ Gr g w w1) := ⟨.inr (.inr (.inl ⟨rfl, H93.out, by omega, rfl, HR1.out⟩)), HG1.out⟩
        go_wp2
        exact HRP.out _ _ HE.out.1 HE.out.2
end Go.Proofs.YtmpgfepkdhjibaaDoor
