/- My own work: a reader in memory; the walks of fail, sees, pass, next. -/
import Derived.Test.YtmpgfepkdhjibaaDoorEsc
import Derived.Test.YtmpgfepkdhjibaaDoorQuo
namespace Go.Proofs.YtmpgfepkdhjibaaDoor
open Go.RowKit

/-- Is it a beginning? -/
def preB (p t : List UInt8) : Bool := t.take p.length == p
theorem preB_no {p t : List UInt8} (h : t.length < p.length) : preB p t = false := by
  unfold preB
  refine beq_false_of_ne (fun e => ?_)
  have := congrArg List.length e
  rw [List.length_take] at this
  omega
set_option maxRecDepth 20000 in
set_option maxHeartbeats 2000000 in
theorem hasPrefix_in (a b : ByteArray) (w : World) : Calls Tryd.prog 80 #[.string a, .string b] w fun e w' => e = .returned (.bool (preB (bl b) (bl a))) ∧ w' = w := by
  have h1 := bl_len a
  have h2 := bl_len b
  by_cases h : b.size ≤ a.size
  · have HE : Hid (((a.extract 0 b.size).toList == b.toList) = preB (bl b) (bl a)) := by
      show _ = _
      unfold preB
      rw [h2, ByteArray.toList_eq, ByteArray.toList_eq]
      have e : (a.extract 0 b.size).data.toList = (bl a).take b.size := by
        simp [ByteArray.data_extract]
      rw [e]
    go_enter Tryd.func80, Tryd.ntmps80
    go_wp2
    go_ret
    exact ⟨by rw [← HE.out]; rfl, rfl⟩
  · have HE : Hid (preB (bl b) (bl a) = false) := preB_no (by omega)
    go_enter Tryd.func80, Tryd.ntmps80
    go_wp2
    go_ret
    exact ⟨by rw [HE.out]; rfl, rfl⟩
theorem hasPrefix_ok (a b : ByteArray) (w : World) : Calls Tryd.prog 77 #[.string a, .string b] w fun e w' => e = .returned (.bool (preB (bl b) (bl a))) ∧ w' = w := by
  have HC := hasPrefix_in a b w
  go_enter Tryd.func77, Tryd.ntmps77
  go_wp2_with fail
  refine Calls.mono HC ?_
  rintro e w1 ⟨rfl, rfl⟩
  clear HC
  go_wp2
  go_ret
  exact ⟨rfl, rfl⟩
/-- The reader's error. -/
def ErV (w : World) (ev : Value) : Option Int → Prop
  | none => ev = .nilIface
  | some e => ∃ k q, ev = .iface 92 (.pointer (some ⟨k, 0, none⟩)) ∧ Row w k #[.int .i64 e, .int .i64 q] 94
/-- A reader that has read so many bytes. -/
structure Rd (w : World) (g : Nat) (s : ByteArray) (p : Nat) (er : Option Int) : Prop where
  ex : ∃ ev, Row w g #[.string s, .int .i64 p, ev] 97 ∧ ErV w ev er
  le : p ≤ s.size
  small : s.size ≤ 1048576
/-- Nothing but the reader has changed. -/
abbrev Gr (g : Nat) (w w' : World) : Prop := w.grownBy w' (some g)
theorem Gr.refl (g : Nat) (w : World) : Gr g w w := ⟨rfl, rfl, rfl, Nat.le_refl _, fun _ _ _ => rfl⟩
theorem Gr.trans {g : Nat} {w w1 w2 : World} (h1 : Gr g w w1) (h2 : Gr g w1 w2) : Gr g w w2 := grown_trans h1 (.inl rfl) h2
theorem Gr.of {g : Nat} {w w' : World} (hb : Below w.heap.size w w') : Gr g w w' := Below.grownBy hb _
theorem Gr.row {g : Nat} {w w' : World} (h : Gr g w w') {k : Nat} {C : Array Value} {t : TypeId} (hr : Row w k C t) (hk : k ≠ g) : Row w' k C t :=
  (h.block k hr.lt (fun e => hk (Option.some.inj e))).trans hr
theorem Rd.keep {w w' : World} {g : Nat} {s : ByteArray} {p : Nat} {er : Option Int} (h : Rd w g s p er) (hb : Below w.heap.size w w') : Rd w' g s p er := by
  obtain ⟨ev, h1, h2⟩ := h.ex
  refine ⟨⟨ev, h1.below hb h1.lt, ?_⟩, h.le, h.small⟩
  cases er with
  | none => exact h2
  | some e =>
    obtain ⟨k, q, e1, e2⟩ := h2
    exact ⟨k, q, e1, e2.below hb e2.lt⟩
theorem gr_set {w : World} {g k : Nat} (x : Value) : Gr g w (w.setCell ⟨g, k, none⟩ x) :=
  ⟨rfl, rfl, rfl, by simp [World.setCell], fun q _ hq => heap_setCell_other w ⟨g, k, none⟩ q x (fun e => hq (by rw [e]))⟩
/-- The first error stays. -/
def orE : Option Int → Int → Option Int
  | none, e => some e
  | some x, _ => some x
set_option maxRecDepth 20000 in
set_option maxHeartbeats 2000000 in
theorem fail_ok (g : Nat) (s : ByteArray) (p : Nat) (er : Option Int) (e : Int) (w : World) (h : Rd w g s p er) : Calls Tryd.prog 52 #[.pointer (some ⟨g, 0, none⟩), .int .i64 e] w fun r w' => (∃ v, r = .returned v) ∧ Rd w' g s p (orE er e) ∧ Gr g w w' := by
  obtain ⟨ev, hr, hv⟩ := h.ex
  have c1 := (hr.cell 1).trans (rfl : _ = some (Value.int .i64 p))
  have c2 := (hr.cell 2).trans (rfl : _ = some ev)
  have HH : Hid (Rd w g s p er) := h
  cases er with
  | some x =>
    obtain ⟨k, q, rfl, _⟩ := hv
    clear h hr
    go_enter Tryd.func52, Tryd.ntmps52
    go_wp2
    go_end0
    exact ⟨⟨_, rfl⟩, HH.out, Gr.refl _ _⟩
  | none =>
    obtain rfl : ev = .nilIface := hv
    have hb : Below w.heap.size w (w.alloc (.cells #[.int .i64 e, .int .i64 p] 94)) := below_new (Below.refl _ _) _
    have hr1 : Row (w.alloc (.cells #[.int .i64 e, .int .i64 p] 94)) g #[.string s, .int .i64 p, .nilIface] 97 := hr.below hb hr.lt
    have j2 := (hr1.cell 2).trans (rfl : _ = some Value.nilIface)
    have z2 := hr1.frozen 2
    have hne : w.heap.size ≠ g := fun e => by have := hr.lt; omega
    have HE : Hid (Rd ((w.alloc (.cells #[.int .i64 e, .int .i64 p] 94)).setCell ⟨g, 2, none⟩ (.iface 92 (.pointer (some ⟨w.heap.size, 0, none⟩)))) g s p (orE none e)) :=
      ⟨⟨_, hr1.setCell _, w.heap.size, p, rfl, (Row.new w _ _).setCell_other hne _⟩, h.le, h.small⟩
    have HG : Hid (Gr g w ((w.alloc (.cells #[.int .i64 e, .int .i64 p] 94)).setCell ⟨g, 2, none⟩ (.iface 92 (.pointer (some ⟨w.heap.size, 0, none⟩))))) := (Gr.of hb).trans (gr_set _)
    clear h hr hb hr1
    go_enter Tryd.func52, Tryd.ntmps52
    go_wp2
    go_end0
    exact ⟨⟨_, rfl⟩, HE.out, HG.out⟩
/-- What is next. -/
def seesB (s : ByteArray) (p : Nat) (er : Option Int) (x : List UInt8) : Bool := er.isNone && preB x ((bl s).drop p)
theorem bl_extract (s : ByteArray) (p : Nat) : bl (s.extract p s.size) = (bl s).drop p := by
  simp [bl, ByteArray.data_extract]
  refine List.take_of_length_le ?_
  rw [List.length_drop, Array.length_toList]
  exact Nat.le_refl _
set_option maxRecDepth 20000 in
set_option maxHeartbeats 2000000 in
theorem sees_ok (g : Nat) (s : ByteArray) (p : Nat) (er : Option Int) (x : ByteArray) (w : World) (h : Rd w g s p er) : Calls Tryd.prog 72 #[.pointer (some ⟨g, 0, none⟩), .string x] w fun r w' => r = .returned (.bool (seesB s p er (bl x))) ∧ Below w.heap.size w w' := by
  obtain ⟨ev, hr, hv⟩ := h.ex
  have hle := h.le
  have hsm := h.small
  have hrd : Row w.drew g #[.string s, .int .i64 p, ev] 97 := Row.drew hr
  cases er with
  | some e =>
    have HV : Hid (seesB s p (some e) (bl x) = false) := rfl
    obtain ⟨k, q, rfl, _⟩ := hv
    clear h hr
    go_enter Tryd.func72, Tryd.ntmps72
    go_wp2_with fail
    refine wp_region_mix [false, false, false, false, false, false, false, false, false, false, false, false, false, false, false, false, false, false, false] (fun wx => Row wx g #[.string s, .int .i64 p, .iface 92 (.pointer (some ⟨k, 0, none⟩))] 97) (by kernel_rfl) (by kernel_rfl) hrd ?_
    refine m_move _ rfl (by rfl) ?_
    simp only [Act.put, List.setIfInBounds_toArray, List.set_cons_zero, List.set_cons_succ]
    refine m_value ?_ (by rfl) (fun w hw => ?_) ?_
    rotate_left
    · go_simp
      with_reducible rfl
    simp only [Act.put, List.setIfInBounds_toArray, List.set_cons_zero, List.set_cons_succ]
    refine m_value ?_ (by rfl) (fun w hw => ?_) ?_
    rotate_left
    · go_simp
      with_reducible rfl
    simp only [Act.put, List.setIfInBounds_toArray, List.set_cons_zero, List.set_cons_succ]
    refine m_value ?_ (by rfl) (fun w hw => ?_) ?_
    rotate_left
    · have c := (hw.cell 2).trans (rfl : _ = some (Value.iface 92 (.pointer (some ⟨k, 0, none⟩))))
      go_simp
      with_reducible rfl
    simp only [Act.put, List.setIfInBounds_toArray, List.set_cons_zero, List.set_cons_succ]
    refine m_value ?_ (by rfl) (fun w hw => ?_) ?_
    rotate_left
    · go_simp
      with_reducible rfl
    simp only [Act.put, List.setIfInBounds_toArray, List.set_cons_zero, List.set_cons_succ]
    refine m_move _ rfl (by rfl) ?_
    simp only [Act.put, List.setIfInBounds_toArray, List.set_cons_zero, List.set_cons_succ]
    refine m_skip (by rfl) ?_
    simp only [Act.put, List.setIfInBounds_toArray, List.set_cons_zero, List.set_cons_succ]
    refine m_skip (by rfl) ?_
    simp only [Act.put, List.setIfInBounds_toArray, List.set_cons_zero, List.set_cons_succ]
    refine m_skip (by rfl) ?_
    simp only [Act.put, List.setIfInBounds_toArray, List.set_cons_zero, List.set_cons_succ]
    refine m_skip (by rfl) ?_
    simp only [Act.put, List.setIfInBounds_toArray, List.set_cons_zero, List.set_cons_succ]
    refine m_skip (by rfl) ?_
    simp only [Act.put, List.setIfInBounds_toArray, List.set_cons_zero, List.set_cons_succ]
    refine m_skip (by rfl) ?_
    simp only [Act.put, List.setIfInBounds_toArray, List.set_cons_zero, List.set_cons_succ]
    refine m_skip (by rfl) ?_
    simp only [Act.put, List.setIfInBounds_toArray, List.set_cons_zero, List.set_cons_succ]
    refine m_skip (by rfl) ?_
    simp only [Act.put, List.setIfInBounds_toArray, List.set_cons_zero, List.set_cons_succ]
    refine m_skip (by rfl) ?_
    simp only [Act.put, List.setIfInBounds_toArray, List.set_cons_zero, List.set_cons_succ]
    refine m_skip (by rfl) ?_
    simp only [Act.put, List.setIfInBounds_toArray, List.set_cons_zero, List.set_cons_succ]
    refine m_skip (by rfl) ?_
    simp only [Act.put, List.setIfInBounds_toArray, List.set_cons_zero, List.set_cons_succ]
    refine m_value ?_ (by rfl) (fun w hw => ?_) ?_
    rotate_left
    · go_simp
      with_reducible rfl
    simp only [Act.put, List.setIfInBounds_toArray, List.set_cons_zero, List.set_cons_succ]
    refine m_assign _ rfl (by rfl) ?_
    simp only [Act.put, List.setIfInBounds_toArray, List.set_cons_zero, List.set_cons_succ]
    refine m_done ?_
    try simp only [Exit.then]
    clear hrd
    go_wp2
    go_ret
    exact ⟨by rw [HV.out]; rfl, (Below.refl _ _).drew⟩
  | none =>
    obtain rfl : ev = .nilIface := hv
    have HC := hasPrefix_ok (s.extract p s.size) x w.drew
    rw [bl_extract] at HC
    have HV : Hid (seesB s p none (bl x) = preB (bl x) ((bl s).drop p)) := rfl
    clear h hr
    go_enter Tryd.func72, Tryd.ntmps72
    go_wp2_with fail
    refine wp_region_mix [false, false, false, false, false, false, false, false, false, false, false, false, false, false, false, false, true, false, false] (fun wx => Row wx g #[.string s, .int .i64 p, .nilIface] 97) (by kernel_rfl) (by kernel_rfl) hrd ?_
    refine m_move _ rfl (by rfl) ?_
    simp only [Act.put, List.setIfInBounds_toArray, List.set_cons_zero, List.set_cons_succ]
    refine m_value ?_ (by rfl) (fun w hw => ?_) ?_
    rotate_left
    · go_simp
      with_reducible rfl
    simp only [Act.put, List.setIfInBounds_toArray, List.set_cons_zero, List.set_cons_succ]
    refine m_value ?_ (by rfl) (fun w hw => ?_) ?_
    rotate_left
    · go_simp
      with_reducible rfl
    simp only [Act.put, List.setIfInBounds_toArray, List.set_cons_zero, List.set_cons_succ]
    refine m_value ?_ (by rfl) (fun w hw => ?_) ?_
    rotate_left
    · have c := (hw.cell 2).trans (rfl : _ = some (Value.nilIface))
      go_simp
      with_reducible rfl
    simp only [Act.put, List.setIfInBounds_toArray, List.set_cons_zero, List.set_cons_succ]
    refine m_value ?_ (by rfl) (fun w hw => ?_) ?_
    rotate_left
    · go_simp
      with_reducible rfl
    simp only [Act.put, List.setIfInBounds_toArray, List.set_cons_zero, List.set_cons_succ]
    refine m_move _ rfl (by rfl) ?_
    simp only [Act.put, List.setIfInBounds_toArray, List.set_cons_zero, List.set_cons_succ]
    refine m_move _ rfl (by rfl) ?_
    simp only [Act.put, List.setIfInBounds_toArray, List.set_cons_zero, List.set_cons_succ]
    refine m_value ?_ (by rfl) (fun w hw => ?_) ?_
    rotate_left
    · go_simp
      with_reducible rfl
    simp only [Act.put, List.setIfInBounds_toArray, List.set_cons_zero, List.set_cons_succ]
    refine m_value ?_ (by rfl) (fun w hw => ?_) ?_
    rotate_left
    · go_simp
      with_reducible rfl
    simp only [Act.put, List.setIfInBounds_toArray, List.set_cons_zero, List.set_cons_succ]
    refine m_value ?_ (by rfl) (fun w hw => ?_) ?_
    rotate_left
    · have c := (hw.cell 0).trans (rfl : _ = some (Value.string s))
      go_simp
      with_reducible rfl
    simp only [Act.put, List.setIfInBounds_toArray, List.set_cons_zero, List.set_cons_succ]
    refine m_move _ rfl (by rfl) ?_
    simp only [Act.put, List.setIfInBounds_toArray, List.set_cons_zero, List.set_cons_succ]
    refine m_value ?_ (by rfl) (fun w hw => ?_) ?_
    rotate_left
    · go_simp
      with_reducible rfl
    simp only [Act.put, List.setIfInBounds_toArray, List.set_cons_zero, List.set_cons_succ]
    refine m_value ?_ (by rfl) (fun w hw => ?_) ?_
    rotate_left
    · go_simp
      with_reducible rfl
    simp only [Act.put, List.setIfInBounds_toArray, List.set_cons_zero, List.set_cons_succ]
    refine m_value ?_ (by rfl) (fun w hw => ?_) ?_
    rotate_left
    · have c := (hw.cell 1).trans (rfl : _ = some (Value.int .i64 p))
      go_simp
      with_reducible rfl
    simp only [Act.put, List.setIfInBounds_toArray, List.set_cons_zero, List.set_cons_succ]
    refine m_value ?_ (by rfl) (fun w hw => ?_) ?_
    rotate_left
    · go_simp
      with_reducible rfl
    simp only [Act.put, List.setIfInBounds_toArray, List.set_cons_zero, List.set_cons_succ]
    refine m_move _ rfl (by rfl) ?_
    simp only [Act.put, List.setIfInBounds_toArray, List.set_cons_zero, List.set_cons_succ]
    refine m_call (by rfl) 77 #[.string (s.extract p s.size), .string x] (by go_simp) (HC.mono ?_)
    rintro e w5 ⟨rfl, rfl⟩
    refine ⟨_, rfl, hrd, ?_⟩
    simp only [Act.put, List.setIfInBounds_toArray, List.set_cons_zero, List.set_cons_succ]
    refine m_value ?_ (by rfl) (fun w hw => ?_) ?_
    rotate_left
    · go_simp
      with_reducible rfl
    simp only [Act.put, List.setIfInBounds_toArray, List.set_cons_zero, List.set_cons_succ]
    refine m_assign _ rfl (by rfl) ?_
    simp only [Act.put, List.setIfInBounds_toArray, List.set_cons_zero, List.set_cons_succ]
    refine m_done ?_
    try simp only [Exit.then]
    clear hrd HC
    go_wp2
    go_ret
    exact ⟨by rw [HV.out]; rfl, (Below.refl _ _).drew⟩
/-- Where pass leaves the reader. -/
def passE (s : ByteArray) (p : Nat) (er : Option Int) (x : List UInt8) : Nat × Option Int := if seesB s p er x then (p + x.length, none) else (p, orE er 10)
set_option maxRecDepth 20000 in
set_option maxHeartbeats 2000000 in
theorem pass_ok (g : Nat) (s : ByteArray) (p : Nat) (er : Option Int) (x : ByteArray) (w : World) (h : Rd w g s p er) : Calls Tryd.prog 59 #[.pointer (some ⟨g, 0, none⟩), .string x] w fun r w' => (∃ v, r = .returned v) ∧ Rd w' g s (passE s p er (bl x)).1 (passE s p er (bl x)).2 ∧ Gr g w w' := by
  have HC := sees_ok g s p er x w h
  have HH : Hid (Rd w g s p er) := h
  have hx := bl_len x
  cases hq : seesB s p er (bl x) with
  | false =>
    rw [hq] at HC
    have HP : Hid (passE s p er (bl x) = (p, orE er 10)) := by show _ = _; unfold passE; rw [hq]; rfl
    clear h hq
    go_enter Tryd.func59, Tryd.ntmps59
    go_wp2_with fail
    refine Calls.mono HC ?_
    rintro e w1 ⟨rfl, hb1⟩
    have HF := fail_ok g s p er 10 w1 (HH.out.keep hb1)
    have HG1 : Hid (Gr g w w1) := Gr.of hb1
    clear hb1 HC
    go_wp2_with fail
    refine Calls.mono HF ?_
    rintro e w2 ⟨⟨v2, rfl⟩, hr2, hg2⟩
    have HE : Hid (Rd w2 g s p (orE er 10) ∧ Gr g w w2) := ⟨hr2, HG1.out.trans hg2⟩
    clear hr2 hg2 HF
    go_wp2
    refine bodyPost_ret (results_none rfl _ _ _) rfl ?_
    exact ⟨⟨_, rfl⟩, by rw [HP.out]; exact HE.out.1, HE.out.2⟩
  | true =>
    rw [hq] at HC
    have HP : Hid (passE s p er (bl x) = (p + (bl x).length, none)) := by show _ = _; unfold passE; rw [hq]; rfl
    have her : er = none := by
      cases er with
      | none => rfl
      | some e => exact absurd hq (by simp [seesB])
    subst her
    have hpl : p + x.size ≤ s.size := by
      have h1 := bl_len s
      simp only [seesB, preB, Option.isNone_none, Bool.true_and, beq_iff_eq] at hq
      have := congrArg List.length hq
      rw [List.length_take, List.length_drop] at this
      have := h.le
      omega
    have hsm := h.small
    have hle := h.le
    clear h hq
    go_enter Tryd.func59, Tryd.ntmps59
    go_wp2_with fail
    refine Calls.mono HC ?_
    rintro e w1 ⟨rfl, hb1⟩
    have hk := HH.out.keep hb1
    obtain ⟨ev, hr1, hv1⟩ := hk.ex
    obtain rfl : ev = .nilIface := hv1
    have c1 := (hr1.cell 1).trans (rfl : _ = some (Value.int .i64 p))
    have z1 := hr1.frozen 1
    have ha : (p : Int) + (x.size : Int) = ((p + x.size : Nat) : Int) := by omega
    have HE : Hid (Rd (w1.setCell ⟨g, 1, none⟩ (.int .i64 ((p + x.size : Nat) : Int))) g s (p + x.size) none) := ⟨⟨_, hr1.setCell _, rfl⟩, hpl, hsm⟩
    have HG : Hid (Gr g w (w1.setCell ⟨g, 1, none⟩ (.int .i64 ((p + x.size : Nat) : Int)))) := (Gr.of hb1).trans (gr_set _)
    generalize hN : p + x.size = N at *
    clear hb1 HC hk hr1
    have HN : Hid (p + (bl x).length = N) := by show _ = _; rw [hx, hN]
    clear hN
    go_wp2
    go_end0
    exact ⟨⟨_, rfl⟩, by rw [HP.out]; simp only [HN.out]; exact HE.out, HG.out⟩
/-- Where next leaves the reader. -/
def nextE (s : ByteArray) (p : Nat) (er : Option Int) : Nat × Option Int := if er.isNone ∧ p < s.size then (p + 1, none) else (p, orE er 10)
def nextC (s : ByteArray) (p : Nat) (er : Option Int) : UInt8 := if er.isNone ∧ p < s.size then (bl s).getD p 0 else 0
set_option maxRecDepth 20000 in
set_option maxHeartbeats 4000000 in
theorem next_ok (g : Nat) (s : ByteArray) (p : Nat) (er : Option Int) (w : World) (h : Rd w g s p er) : Calls Tryd.prog 79 #[.pointer (some ⟨g, 0, none⟩)] w fun r w' => r = .returned (.int .u8 (nextC s p er).toNat) ∧ Rd w' g s (nextE s p er).1 (nextE s p er).2 ∧ Gr g w w' := by
  obtain ⟨ev, hr, hv⟩ := h.ex
  have hle := h.le
  have hsm := h.small
  have hrd : Row w.drew g #[.string s, .int .i64 p, ev] 97 := Row.drew hr
  have HD : Hid (Rd w.drew g s p er) := h.keep (Below.refl _ _).drew
  cases er with
  | some e =>
    have HP : Hid (nextE s p (some e) = (p, orE (some e) 10) ∧ nextC s p (some e) = 0) := by constructor <;> simp [nextE, nextC]
    obtain ⟨k, q, rfl, _⟩ := hv
    have HF := fail_ok g s p (some e) 10 w.drew HD.out
    clear h hr
    go_enter Tryd.func79, Tryd.ntmps79
    go_wp2_with fail
    refine wp_region_mix [false, false, false, false, false, false, false, false, false, false, false, false, false, false, false, false, false] (fun wx => Row wx g #[.string s, .int .i64 p, .iface 92 (.pointer (some ⟨k, 0, none⟩))] 97) (by kernel_rfl) (by kernel_rfl) hrd ?_
    refine m_move _ rfl (by rfl) ?_
    simp only [Act.put, List.setIfInBounds_toArray, List.set_cons_zero, List.set_cons_succ]
    refine m_value ?_ (by rfl) (fun w hw => ?_) ?_
    rotate_left
    · go_simp
      with_reducible rfl
    simp only [Act.put, List.setIfInBounds_toArray, List.set_cons_zero, List.set_cons_succ]
    refine m_value ?_ (by rfl) (fun w hw => ?_) ?_
    rotate_left
    · go_simp
      with_reducible rfl
    simp only [Act.put, List.setIfInBounds_toArray, List.set_cons_zero, List.set_cons_succ]
    refine m_value ?_ (by rfl) (fun w hw => ?_) ?_
    rotate_left
    · have c := (hw.cell 2).trans (rfl : _ = some (Value.iface 92 (.pointer (some ⟨k, 0, none⟩))))
      go_simp
      with_reducible rfl
    simp only [Act.put, List.setIfInBounds_toArray, List.set_cons_zero, List.set_cons_succ]
    refine m_value ?_ (by rfl) (fun w hw => ?_) ?_
    rotate_left
    · go_simp
      with_reducible rfl
    simp only [Act.put, List.setIfInBounds_toArray, List.set_cons_zero, List.set_cons_succ]
    refine m_move _ rfl (by rfl) ?_
    simp only [Act.put, List.setIfInBounds_toArray, List.set_cons_zero, List.set_cons_succ]
    refine m_skip (by rfl) ?_
    simp only [Act.put, List.setIfInBounds_toArray, List.set_cons_zero, List.set_cons_succ]
    refine m_skip (by rfl) ?_
    simp only [Act.put, List.setIfInBounds_toArray, List.set_cons_zero, List.set_cons_succ]
    refine m_skip (by rfl) ?_
    simp only [Act.put, List.setIfInBounds_toArray, List.set_cons_zero, List.set_cons_succ]
    refine m_skip (by rfl) ?_
    simp only [Act.put, List.setIfInBounds_toArray, List.set_cons_zero, List.set_cons_succ]
    refine m_skip (by rfl) ?_
    simp only [Act.put, List.setIfInBounds_toArray, List.set_cons_zero, List.set_cons_succ]
    refine m_skip (by rfl) ?_
    simp only [Act.put, List.setIfInBounds_toArray, List.set_cons_zero, List.set_cons_succ]
    refine m_skip (by rfl) ?_
    simp only [Act.put, List.setIfInBounds_toArray, List.set_cons_zero, List.set_cons_succ]
    refine m_skip (by rfl) ?_
    simp only [Act.put, List.setIfInBounds_toArray, List.set_cons_zero, List.set_cons_succ]
    refine m_skip (by rfl) ?_
    simp only [Act.put, List.setIfInBounds_toArray, List.set_cons_zero, List.set_cons_succ]
    refine m_skip (by rfl) ?_
    simp only [Act.put, List.setIfInBounds_toArray, List.set_cons_zero, List.set_cons_succ]
    refine m_value ?_ (by rfl) (fun w hw => ?_) ?_
    rotate_left
    · go_simp
      with_reducible rfl
    simp only [Act.put, List.setIfInBounds_toArray, List.set_cons_zero, List.set_cons_succ]
    refine m_done ?_
    try simp only [Exit.then]
    clear hrd
    go_wp2_with fail
    refine Calls.mono HF ?_
    rintro e w2 ⟨⟨v2, rfl⟩, hr2, hg2⟩
    have HE : Hid (Rd w2 g s p (orE (some e) 10) ∧ Gr g w w2) := ⟨hr2, (Gr.of (Below.refl _ _).drew).trans hg2⟩
    clear hr2 hg2 HF
    go_wp2
    go_ret
    exact ⟨by rw [HP.out.2]; rfl, by rw [HP.out.1]; exact HE.out.1, HE.out.2⟩
  | none =>
    obtain rfl : ev = .nilIface := hv
    by_cases hend : p < s.size
    · have hb : ((p : Int) == (s.size : Int)) = false := beq_false_of_ne (by omega)
      have HP : Hid (nextE s p none = (p + 1, none) ∧ nextC s p none = (bl s).getD p 0) := by constructor <;> simp [nextE, nextC, hend]
      have hrs : Row (w.drew.setCell ⟨g, 1, none⟩ (.int .i64 ((p + 1 : Nat) : Int))).drew g #[.string s, .int .i64 ((p + 1 : Nat) : Int), .nilIface] 97 := Row.drew (Row.setCell hrd _)
      have c1 := (hrd.cell 1).trans (rfl : _ = some (Value.int .i64 p))
      have z1 := hrd.frozen 1
      have ha : (p : Int) + 1 = ((p + 1 : Nat) : Int) := by omega
      have HE : Hid (Rd (w.drew.setCell ⟨g, 1, none⟩ (.int .i64 ((p + 1 : Nat) : Int))).drew g s (p + 1) none) := ⟨⟨_, hrs, rfl⟩, by omega, hsm⟩
      have HG : Hid (Gr g w (w.drew.setCell ⟨g, 1, none⟩ (.int .i64 ((p + 1 : Nat) : Int))).drew) := (Gr.of (Below.refl _ _).drew).trans ((gr_set _).trans (Gr.of (Below.refl _ _).drew))
      obtain ⟨c, hc⟩ : ∃ c : UInt8, c = s[p] := ⟨_, rfl⟩
      have hc' := hc.symm
      have HCC : Hid ((bl s).getD p 0 = c) := by
        show _ = _
        have : p < (bl s).length := by rw [bl_len]; exact hend
        rw [hc, List.getD, List.getElem?_eq_getElem this]
        rfl
      clear hc
      generalize hN : p + 1 = N at *
      have hNm : (N : Int) - 1 = (p : Int) := by omega
      have hwp : IntKind.i64.wrap (p : Int) = p := by rw [IntKind.wrap_i64]; omega
      have hend' : (p : Int) < (s.size : Int) := by omega
      clear h hr
      go_enter Tryd.func79, Tryd.ntmps79
      go_wp2_with fail
      refine wp_region_mix [false, false, false, false, false, false, false, false, false, false, false, false, false, false, false, false, false] (fun wx => Row wx g #[.string s, .int .i64 p, .nilIface] 97) (by kernel_rfl) (by kernel_rfl) hrd ?_
      refine m_move _ rfl (by rfl) ?_
      simp only [Act.put, List.setIfInBounds_toArray, List.set_cons_zero, List.set_cons_succ]
      refine m_value ?_ (by rfl) (fun w hw => ?_) ?_
      rotate_left
      · go_simp
        with_reducible rfl
      simp only [Act.put, List.setIfInBounds_toArray, List.set_cons_zero, List.set_cons_succ]
      refine m_value ?_ (by rfl) (fun w hw => ?_) ?_
      rotate_left
      · go_simp
        with_reducible rfl
      simp only [Act.put, List.setIfInBounds_toArray, List.set_cons_zero, List.set_cons_succ]
      refine m_value ?_ (by rfl) (fun w hw => ?_) ?_
      rotate_left
      · have c := (hw.cell 2).trans (rfl : _ = some (Value.nilIface))
        go_simp
        with_reducible rfl
      simp only [Act.put, List.setIfInBounds_toArray, List.set_cons_zero, List.set_cons_succ]
      refine m_value ?_ (by rfl) (fun w hw => ?_) ?_
      rotate_left
      · go_simp
        with_reducible rfl
      simp only [Act.put, List.setIfInBounds_toArray, List.set_cons_zero, List.set_cons_succ]
      refine m_move _ rfl (by rfl) ?_
      simp only [Act.put, List.setIfInBounds_toArray, List.set_cons_zero, List.set_cons_succ]
      refine m_move _ rfl (by rfl) ?_
      simp only [Act.put, List.setIfInBounds_toArray, List.set_cons_zero, List.set_cons_succ]
      refine m_value ?_ (by rfl) (fun w hw => ?_) ?_
      rotate_left
      · go_simp
        with_reducible rfl
      simp only [Act.put, List.setIfInBounds_toArray, List.set_cons_zero, List.set_cons_succ]
      refine m_value ?_ (by rfl) (fun w hw => ?_) ?_
      rotate_left
      · go_simp
        with_reducible rfl
      simp only [Act.put, List.setIfInBounds_toArray, List.set_cons_zero, List.set_cons_succ]
      refine m_value ?_ (by rfl) (fun w hw => ?_) ?_
      rotate_left
      · have c := (hw.cell 1).trans (rfl : _ = some (Value.int .i64 p))
        go_simp
        with_reducible rfl
      simp only [Act.put, List.setIfInBounds_toArray, List.set_cons_zero, List.set_cons_succ]
      refine m_move _ rfl (by rfl) ?_
      simp only [Act.put, List.setIfInBounds_toArray, List.set_cons_zero, List.set_cons_succ]
      refine m_value ?_ (by rfl) (fun w hw => ?_) ?_
      rotate_left
      · go_simp
        with_reducible rfl
      simp only [Act.put, List.setIfInBounds_toArray, List.set_cons_zero, List.set_cons_succ]
      refine m_value ?_ (by rfl) (fun w hw => ?_) ?_
      rotate_left
      · go_simp
        with_reducible rfl
      simp only [Act.put, List.setIfInBounds_toArray, List.set_cons_zero, List.set_cons_succ]
      refine m_value ?_ (by rfl) (fun w hw => ?_) ?_
      rotate_left
      · have c := (hw.cell 0).trans (rfl : _ = some (Value.string s))
        go_simp
        with_reducible rfl
      simp only [Act.put, List.setIfInBounds_toArray, List.set_cons_zero, List.set_cons_succ]
      refine m_value ?_ (by rfl) (fun w hw => ?_) ?_
      rotate_left
      · go_simp
        with_reducible rfl
      simp only [Act.put, List.setIfInBounds_toArray, List.set_cons_zero, List.set_cons_succ]
      refine m_value ?_ (by rfl) (fun w hw => ?_) ?_
      rotate_left
      · go_simp
        with_reducible rfl
      simp only [Act.put, List.setIfInBounds_toArray, List.set_cons_zero, List.set_cons_succ]
      refine m_value ?_ (by rfl) (fun w hw => ?_) ?_
      rotate_left
      · go_simp
        with_reducible rfl
      simp only [Act.put, List.setIfInBounds_toArray, List.set_cons_zero, List.set_cons_succ]
      refine m_done ?_
      try simp only [Exit.then]
      go_wp2_with fail
      refine wp_region_mix [false, false, false, false, false, false, false, false, false, false, false] (fun wx => Row wx g #[.string s, .int .i64 (N : Int), .nilIface] 97) (by kernel_rfl) (by kernel_rfl) hrs ?_
      refine m_move _ rfl (by rfl) ?_
      simp only [Act.put, List.setIfInBounds_toArray, List.set_cons_zero, List.set_cons_succ]
      refine m_value ?_ (by rfl) (fun w hw => ?_) ?_
      rotate_left
      · go_simp
        with_reducible rfl
      simp only [Act.put, List.setIfInBounds_toArray, List.set_cons_zero, List.set_cons_succ]
      refine m_value ?_ (by rfl) (fun w hw => ?_) ?_
      rotate_left
      · go_simp
        with_reducible rfl
      simp only [Act.put, List.setIfInBounds_toArray, List.set_cons_zero, List.set_cons_succ]
      refine m_value ?_ (by rfl) (fun w hw => ?_) ?_
      rotate_left
      · have c := (hw.cell 0).trans (rfl : _ = some (Value.string s))
        go_simp
        with_reducible rfl
      simp only [Act.put, List.setIfInBounds_toArray, List.set_cons_zero, List.set_cons_succ]
      refine m_move _ rfl (by rfl) ?_
      simp only [Act.put, List.setIfInBounds_toArray, List.set_cons_zero, List.set_cons_succ]
      refine m_value ?_ (by rfl) (fun w hw => ?_) ?_
      rotate_left
      · go_simp
        with_reducible rfl
      simp only [Act.put, List.setIfInBounds_toArray, List.set_cons_zero, List.set_cons_succ]
      refine m_value ?_ (by rfl) (fun w hw => ?_) ?_
      rotate_left
      · go_simp
        with_reducible rfl
      simp only [Act.put, List.setIfInBounds_toArray, List.set_cons_zero, List.set_cons_succ]
      refine m_value ?_ (by rfl) (fun w hw => ?_) ?_
      rotate_left
      · have c := (hw.cell 1).trans (rfl : _ = some (Value.int .i64 (N : Int)))
        go_simp
        with_reducible rfl
      simp only [Act.put, List.setIfInBounds_toArray, List.set_cons_zero, List.set_cons_succ]
      refine m_value ?_ (by rfl) (fun w hw => ?_) ?_
      rotate_left
      · go_simp
        with_reducible rfl
      simp only [Act.put, List.setIfInBounds_toArray, List.set_cons_zero, List.set_cons_succ]
      refine m_value ?_ (by rfl) (fun w hw => ?_) ?_
      rotate_left
      · go_simp
        with_reducible rfl
      simp only [Act.put, List.setIfInBounds_toArray, List.set_cons_zero, List.set_cons_succ]
      refine m_assign _ rfl (by rfl) ?_
      simp only [Act.put, List.setIfInBounds_toArray, List.set_cons_zero, List.set_cons_succ]
      refine m_done ?_
      try simp only [Exit.then]
      clear hrd hrs
      go_wp2
      go_ret
      exact ⟨by rw [HP.out.2, HCC.out]; rfl, by rw [HP.out.1]; exact HE.out, HG.out⟩
    · have hb : ((p : Int) == (s.size : Int)) = true := by simp; omega
      have HP : Hid (nextE s p none = (p, orE none 10) ∧ nextC s p none = 0) := by constructor <;> simp [nextE, nextC, hend]
      have HF := fail_ok g s p none 10 w.drew HD.out
      clear h hr
      go_enter Tryd.func79, Tryd.ntmps79
      go_wp2_with fail
      refine wp_region_mix [false, false, false, false, false, false, false, false, false, false, false, false, false, false, false, false, false] (fun wx => Row wx g #[.string s, .int .i64 p, .nilIface] 97) (by kernel_rfl) (by kernel_rfl) hrd ?_
      refine m_move _ rfl (by rfl) ?_
      simp only [Act.put, List.setIfInBounds_toArray, List.set_cons_zero, List.set_cons_succ]
      refine m_value ?_ (by rfl) (fun w hw => ?_) ?_
      rotate_left
      · go_simp
        with_reducible rfl
      simp only [Act.put, List.setIfInBounds_toArray, List.set_cons_zero, List.set_cons_succ]
      refine m_value ?_ (by rfl) (fun w hw => ?_) ?_
      rotate_left
      · go_simp
        with_reducible rfl
      simp only [Act.put, List.setIfInBounds_toArray, List.set_cons_zero, List.set_cons_succ]
      refine m_value ?_ (by rfl) (fun w hw => ?_) ?_
      rotate_left
      · have c := (hw.cell 2).trans (rfl : _ = some (Value.nilIface))
        go_simp
        with_reducible rfl
      simp only [Act.put, List.setIfInBounds_toArray, List.set_cons_zero, List.set_cons_succ]
      refine m_value ?_ (by rfl) (fun w hw => ?_) ?_
      rotate_left
      · go_simp
        with_reducible rfl
      simp only [Act.put, List.setIfInBounds_toArray, List.set_cons_zero, List.set_cons_succ]
      refine m_move _ rfl (by rfl) ?_
      simp only [Act.put, List.setIfInBounds_toArray, List.set_cons_zero, List.set_cons_succ]
      refine m_move _ rfl (by rfl) ?_
      simp only [Act.put, List.setIfInBounds_toArray, List.set_cons_zero, List.set_cons_succ]
      refine m_value ?_ (by rfl) (fun w hw => ?_) ?_
      rotate_left
      · go_simp
        with_reducible rfl
      simp only [Act.put, List.setIfInBounds_toArray, List.set_cons_zero, List.set_cons_succ]
      refine m_value ?_ (by rfl) (fun w hw => ?_) ?_
      rotate_left
      · go_simp
        with_reducible rfl
      simp only [Act.put, List.setIfInBounds_toArray, List.set_cons_zero, List.set_cons_succ]
      refine m_value ?_ (by rfl) (fun w hw => ?_) ?_
      rotate_left
      · have c := (hw.cell 1).trans (rfl : _ = some (Value.int .i64 p))
        go_simp
        with_reducible rfl
      simp only [Act.put, List.setIfInBounds_toArray, List.set_cons_zero, List.set_cons_succ]
      refine m_move _ rfl (by rfl) ?_
      simp only [Act.put, List.setIfInBounds_toArray, List.set_cons_zero, List.set_cons_succ]
      refine m_value ?_ (by rfl) (fun w hw => ?_) ?_
      rotate_left
      · go_simp
        with_reducible rfl
      simp only [Act.put, List.setIfInBounds_toArray, List.set_cons_zero, List.set_cons_succ]
      refine m_value ?_ (by rfl) (fun w hw => ?_) ?_
      rotate_left
      · go_simp
        with_reducible rfl
      simp only [Act.put, List.setIfInBounds_toArray, List.set_cons_zero, List.set_cons_succ]
      refine m_value ?_ (by rfl) (fun w hw => ?_) ?_
      rotate_left
      · have c := (hw.cell 0).trans (rfl : _ = some (Value.string s))
        go_simp
        with_reducible rfl
      simp only [Act.put, List.setIfInBounds_toArray, List.set_cons_zero, List.set_cons_succ]
      refine m_value ?_ (by rfl) (fun w hw => ?_) ?_
      rotate_left
      · go_simp
        with_reducible rfl
      simp only [Act.put, List.setIfInBounds_toArray, List.set_cons_zero, List.set_cons_succ]
      refine m_value ?_ (by rfl) (fun w hw => ?_) ?_
      rotate_left
      · go_simp
        with_reducible rfl
      simp only [Act.put, List.setIfInBounds_toArray, List.set_cons_zero, List.set_cons_succ]
      refine m_value ?_ (by rfl) (fun w hw => ?_) ?_
      rotate_left
      · go_simp
        with_reducible rfl
      simp only [Act.put, List.setIfInBounds_toArray, List.set_cons_zero, List.set_cons_succ]
      refine m_done ?_
      try simp only [Exit.then]
      clear hrd
      go_wp2_with fail
      refine Calls.mono HF ?_
      rintro e w2 ⟨⟨v2, rfl⟩, hr2, hg2⟩
      have HE : Hid (Rd w2 g s p (orE none 10) ∧ Gr g w w2) := ⟨hr2, (Gr.of (Below.refl _ _).drew).trans hg2⟩
      clear hr2 hg2 HF
      go_wp2
      go_ret
      exact ⟨by rw [HP.out.2]; rfl, by rw [HP.out.1]; exact HE.out.1, HE.out.2⟩
end Go.Proofs.YtmpgfepkdhjibaaDoor
