/- My own work: the walk of the reader's text. -/
import Derived.Test.YtmpgfepkdhjibaaDoorRd8b
import Derived.Test.YtmpgfepkdhjibaaDoorWr2
namespace Go.Proofs.YtmpgfepkdhjibaaDoor
open Go.RowKit

/-- A reader that has read so many bytes, and found nothing wrong yet, or something. -/
abbrev Rq (w : World) (g : Nat) (s : ByteArray) (p : Nat) (b : Bool) : Prop := Rd w g s p (if b then some 10 else none)
/-- What a reader's call tells: a value that is written so, and where it ends; or that none is there. -/
def Reads {α : Type} (E : α → List UInt8) (V : World → Value → α → Prop) (g : Nat) (s : ByteArray) (p : Nat) (b : Bool) (w : World) (r : Ending) (w' : World) : Prop :=
  Gr g w w' ∧ ∃ v x, r = .returned v ∧ V w' v x ∧ ((b = false ∧ ∃ p', Rq w' g s p' false ∧ (bl s).drop p = E x ++ (bl s).drop p') ∨ (∃ p', Rq w' g s p' true ∧ (b = false → ∀ y r, (bl s).drop p ≠ E y ++ r)))
theorem Gr.more {g B : Nat} {w wx w' : World} {v v' : Value} {X Z : List UInt8} (h : Gr g w wx) (h0 : Buf wx B v X) (hB : w.heap.size ≤ B) (hm : More B wx v w' v' Z) : Gr g w w' :=
  ⟨hm.grown.os.trans h.os, hm.grown.tape.trans h.tape, hm.grown.output.trans h.output, Nat.le_trans h.size hm.grown.size, fun k hk hne => (hm.grown.block k (by have := h.size; omega) (fun e => by
    have := (ownsRow_lt h0 k e.symm).2.1
    omega)).trans (h.block k hk hne)⟩
theorem Buf.gr {g B : Nat} {w w' : World} {v : Value} {X : List UInt8} (h : Buf w B v X) (hg : Gr g w w') (hB : g < B) : Buf w' B v X :=
  ownsRow_keep h fun k hk hlt => hg.block k hlt (fun e => by
    have h1 := (ownsRow_lt h k hk).2.1
    have := Option.some.inj e
    omega)
theorem Rd.more {g B : Nat} {w w' : World} {v v' : Value} {X Z : List UInt8} {s : ByteArray} {p : Nat} {er : Option Int} (h : Rd w g s p er) (h0 : Buf w B v X) (hm : More B w v w' v' Z) : Rd w' g s p er := by
  obtain ⟨ev, h1, h2⟩ := h.ex
  refine ⟨⟨ev, hm.row h0 h1 (by decide), ?_⟩, h.le, h.small⟩
  cases er with
  | none => exact h2
  | some e =>
    obtain ⟨k, q, e1, e2⟩ := h2
    exact ⟨k, q, e1, hm.row h0 e2 (by decide)⟩
/-- What is left to be read, told by the memory. -/
def leftOf (s : ByteArray) (g : Nat) (w : World) : Nat := match w.cell? ⟨g, 1, none⟩, w.cell? ⟨g, 2, none⟩ with | some (.int _ p), some .nilIface => s.size + 1 - p.toNat | _, _ => 0
theorem left_ok {w : World} {g : Nat} {s : ByteArray} {p : Nat} (h : Rq w g s p false) : leftOf s g w = s.size + 1 - p := by
  obtain ⟨ev, h1, h2⟩ := h.ex
  obtain rfl : ev = .nilIface := h2
  have c1 := (h1.cell 1).trans (rfl : _ = some (Value.int .i64 p))
  have c2 := (h1.cell 2).trans (rfl : _ = some Value.nilIface)
  unfold leftOf
  rw [c1, c2]
  simp
theorem left_bad {w : World} {g : Nat} {s : ByteArray} {p : Nat} (h : Rq w g s p true) : leftOf s g w = 0 := by
  obtain ⟨ev, h1, k, q, rfl, _⟩ := h.ex
  have c1 := (h1.cell 1).trans (rfl : _ = some (Value.int .i64 p))
  have c2 := (h1.cell 2).trans (rfl : _ = some (Value.iface 92 (.pointer (some ⟨k, 0, none⟩))))
  unfold leftOf
  rw [c1, c2]
theorem escL_append (a b : List UInt8) : escL (a ++ b) = escL a ++ escL b := by simp [escL]
/-- What a quoted text goes on with. -/
theorem quote_rest (X : List UInt8) : ∀ (x : List UInt8) (rest r : List UInt8), escL X ++ rest = escL x ++ 34 :: r → ∃ Y, rest = escL Y ++ 34 :: r := by
  induction X with
  | nil => intro x rest r h; exact ⟨x, by simpa [escL] using h⟩
  | cons c X ih =>
    intro x rest r h
    cases x with
    | nil =>
      rw [escL_cons] at h
      exfalso
      unfold escU at h
      rcases signN_cases c with ⟨y, hy⟩ | ⟨hy, h34, _⟩
      · rw [hy] at h
        simp [escL] at h
      · rw [hy] at h
        simp [escL] at h
        exact h34 h.1
    | cons c' x =>
      rw [escL_cons, escL_cons, List.append_assoc, List.append_assoc] at h
      exact ih x rest r (escU_inj h).2
set_option maxRecDepth 20000 in
set_option maxHeartbeats 8000000 in
theorem rtext_ok (g : Nat) (s : ByteArray) (p : Nat) (b : Bool) (w : World) (h : Rq w g s p b) (hT : ETab w) (hg : 0 ≠ g) : Calls Tryd.prog 65 #[.pointer (some ⟨g, 0, none⟩)] w fun r w' => Reads strE (fun _ v x => v = .string x) g s p b w r w' := by
  have hbl := bl_len s
  obtain ⟨RP, hRP⟩ : ∃ RP, RP = Reads strE (fun _ v x => v = .string x) g s p b w := ⟨_, rfl⟩
  have HRP : Hid (∀ r w', Reads strE (fun _ v x => v = .string x) g s p b w r w' → RP r w') := fun r w' h => by rw [hRP]; exact h
  rw [← hRP]
  have hgl : g < w.heap.size := by obtain ⟨ev, h1, _⟩ := h.ex; exact h1.lt
  have HTG : Hid (∀ wx, Gr g w wx → ETab wx) := fun wx hgr => by
    obtain ⟨t, fr, ht⟩ := hT
    exact ⟨t, fr, (hgr.block 0 (ETab.pos ⟨t, fr, ht⟩) (fun e => hg (Option.some.inj e))).trans ht⟩
  have HP := pass_ok g s p _ ⟨#[34]⟩ w h
  -- where the quote leaves it
  obtain ⟨p1, b1, hpe, hb1⟩ : ∃ p1 b1, passE s p (if b then some 10 else none) (bl ⟨#[34]⟩) = (p1, if b1 then some 10 else none) ∧ (b = false → (b1 = false ∧ (bl s).drop p = 34 :: (bl s).drop p1) ∨ (b1 = true ∧ ((bl s).drop p).head? ≠ some 34)) ∧ (b = true → b1 = true) := by
    cases b with
    | true => exact ⟨p, true, rfl, fun h => absurd h (by decide), fun _ => rfl⟩
    | false =>
      have hsb : seesB s p none (bl ⟨#[34]⟩) = decide (((bl s).drop p).head? = some 34) := by
        show (true && preB [34] ((bl s).drop p)) = _
        rw [Bool.true_and, pre1]
      by_cases h34 : ((bl s).drop p).head? = some 34
      · refine ⟨p + 1, false, ?_, fun _ => .inl ⟨rfl, ?_⟩, fun h => absurd h (by decide)⟩
        · show passE s p none (bl ⟨#[34]⟩) = (p + 1, none)
          unfold passE
          rw [hsb, decide_eq_true h34, if_pos rfl]
          rfl
        · have hp : p < (bl s).length := by
            by_cases hp : p < (bl s).length
            · exact hp
            · rw [List.drop_of_length_le (by omega)] at h34
              cases h34
          rw [drop_cons _ _ hp] at h34 ⊢
          simp only [List.head?_cons, Option.some.injEq] at h34
          rw [h34]
      · refine ⟨p, true, ?_, fun _ => .inr ⟨rfl, h34⟩, fun h => absurd h (by decide)⟩
        show passE s p none (bl ⟨#[34]⟩) = (p, some 10)
        unfold passE
        rw [hsb, decide_eq_false h34]
        rfl
  rw [hpe] at HP
  clear h hT hRP hpe
  go_enter Tryd.func65, Tryd.ntmps65
  go_wp2_with fail
  refine Calls.mono HP ?_
  rintro e w1 ⟨⟨v1, rfl⟩, hr1, hg1⟩
  have HR1 : Hid (Rq w1 g s p1 b1) := hr1
  have HG1 : Hid (Gr g w w1) := hg1
  have HB1 : Hid _ := hb1
  clear hr1 hg1 HP hb1
  go_wp2
  go_loopw [3] (fun bv wx => ∃ (X : List UInt8) (p2 : Nat) (b2 : Bool), Hid (Buf wx w.heap.size bv X) ∧ Hid (Rq wx g s p2 b2) ∧ Hid (Gr g w wx) ∧ Hid (b = false → (b2 = false → (bl s).drop p = 34 :: (escL X ++ (bl s).drop p2)) ∧ (b2 = true → ∀ y r, (bl s).drop p ≠ strE y ++ r)) ∧ Hid (b = true → b2 = true)) (fun _ wx => leftOf s g wx)
  case atStart =>
    refine ⟨[], p1, b1, World.ownsRow_nil _ _ _ _, HR1, HG1, ?_, HB1.out.2⟩
    show b = false → _
    intro hb
    rcases HB1.out.1 hb with ⟨h1, h2⟩ | ⟨h1, h2⟩
    · exact ⟨fun _ => by rw [h2]; rfl, fun h => absurd (h1.symm.trans h) (by decide)⟩
    · refine ⟨fun h => absurd (h1.symm.trans h) (by decide), fun _ y r e => h2 ?_⟩
      rw [e]; rfl
  case round =>
    clear HR1 HG1 HB1
    obtain ⟨X, p2, b2, HX, HR, HG, HN, HT2⟩ := hrel
    have hszw := HG.out.size
    cases b2 with
    | true =>
      have hR := HR.out
      obtain ⟨ev, hr2, k, q, rfl, _⟩ := hR.ex
      have c2 := (hr2.cell 2).trans (rfl : _ = some (Value.iface 92 (.pointer (some ⟨k, 0, none⟩))))
      have HP := pass_ok g s p2 (some 10) ⟨#[34]⟩ wr hR
      have hpe : passE s p2 (some 10) (bl ⟨#[34]⟩) = (p2, some 10) := rfl
      rw [hpe] at HP
      clear hr2 hR
      go_wp2_with fail
      refine Calls.mono HP ?_
      rintro e w3 ⟨⟨v3, rfl⟩, hr3, hg3⟩
      have hcv := conv_buf w3 w.heap.size u3 X (HX.out.gr hg3 hgl)
      have HE : Hid (Reads strE (fun _ v x => v = .string x) g s p b w (.returned (.string ⟨X.toArray⟩)) w3) := ⟨HG.out.trans hg3, _, ⟨X.toArray⟩, rfl, rfl, .inr ⟨p2, hr3, fun hb => (HN.out hb).2 trivial⟩⟩
      clear hr3 hg3 HP HX HR HG HN HT2 c2
      go_wp2
      exact HRP.out _ _ HE.out
    | false =>
      have hbf : b = false := by
        cases b with
        | false => rfl
        | true => exact absurd (HT2.out rfl) (by decide)
      have hR : Rd wr g s p2 none := HR.out
      obtain ⟨ev, hr2, hv⟩ := hR.ex
      obtain rfl : ev = .nilIface := hv
      have c2 := (hr2.cell 2).trans (rfl : _ = some Value.nilIface)
      have hle2 := hR.le
      have HS := sees_ok g s p2 none ⟨#[34]⟩ wr hR
      have hsb : seesB s p2 none (bl ⟨#[34]⟩) = decide (((bl s).drop p2).head? = some 34) := by
        show (true && preB [34] ((bl s).drop p2)) = _
        rw [Bool.true_and, pre1]
      rw [hsb] at HS
      have HDr : Hid ((bl s).drop p = 34 :: (escL X ++ (bl s).drop p2)) := (HN.out hbf).1 rfl
      have HRr : Hid (Rd wr g s p2 none) := hR
      clear hr2 hR
      by_cases h34 : ((bl s).drop p2).head? = some 34
      · have HPE : Hid (passE s p2 none (bl ⟨#[34]⟩) = (p2 + 1, none)) := by
          show _ = _
          unfold passE
          rw [hsb, decide_eq_true h34, if_pos rfl]
          rfl
        have HD2 : Hid ((bl s).drop p2 = 34 :: (bl s).drop (p2 + 1)) := by
          show _ = _
          have hp : p2 < (bl s).length := by
            by_cases hp : p2 < (bl s).length
            · exact hp
            · rw [List.drop_of_length_le (by omega)] at h34
              cases h34
          rw [drop_cons _ _ hp] at h34 ⊢
          simp only [List.head?_cons, Option.some.injEq] at h34
          rw [h34]
        rw [decide_eq_true h34] at HS
        clear hsb h34
        go_wp2_with fail
        refine Calls.mono HS ?_
        rintro e w2 ⟨rfl, hb2⟩
        have HP := pass_ok g s p2 none ⟨#[34]⟩ w2 (HRr.out.keep hb2)
        rw [HPE.out] at HP
        have HG2 : Hid (Gr g w w2) := HG.out.trans (Gr.of hb2)
        have HX2 : Hid (Buf w2 w.heap.size u3 X) := HX.out.keep hb2
        clear hb2 HS c2
        go_wp2_with fail
        refine Calls.mono HP ?_
        rintro e w3 ⟨⟨v3, rfl⟩, hr3, hg3⟩
        have hcv := conv_buf w3 w.heap.size u3 X (HX2.out.gr hg3 hgl)
        have HE : Hid (Reads strE (fun _ v x => v = .string x) g s p b w (.returned (.string ⟨X.toArray⟩)) w3) := ⟨HG2.out.trans hg3, _, ⟨X.toArray⟩, rfl, rfl, .inl ⟨hbf, p2 + 1, hr3, by
          rw [HDr.out, HD2.out]
          simp [strE, quoteU, bl]⟩⟩
        clear hr3 hg3 HP HX HX2 HR HG HG2 HN HT2
        go_wp2
        exact HRP.out _ _ HE.out
      · rw [decide_eq_false h34] at HS
        have H34 : Hid _ := h34
        clear hsb h34
        go_wp2_with fail
        refine Calls.mono HS ?_
        rintro e w2 ⟨rfl, hb2⟩
        have HG2 : Hid (Gr g w w2) := HG.out.trans (Gr.of hb2)
        have HX2 : Hid (Buf w2 w.heap.size u3 X) := HX.out.keep hb2
        have HL := letter_ok g s p2 w2 (HRr.out.keep hb2) (HTG.out w2 HG2.out) hg H34.out
        clear hb2 HS c2
        go_wp2_with fail
        refine Calls.mono HL ?_
        rintro e w3 ⟨hg3, c, rfl, hpost⟩
        have HX3 : Hid (Buf w3 w.heap.size u3 X) := HX2.out.gr hg3 hgl
        have HG3 : Hid (Gr g w w3) := HG2.out.trans hg3
        have HPo : Hid _ := hpost
        have hsz3 := HG3.out.size
        have ho3 := run_one w3 c
        have hk3 : (w3.alloc (.cells #[.int .u8 c.toNat] 5)).cell? ⟨w3.heap.size, 0, none⟩ = some (.int .u8 c.toNat) := (Row.new w3 _ 5).cell 0
        have HXA : Hid (Buf (w3.alloc (.cells #[.int .u8 c.toNat] 5)) w.heap.size u3 X) := HX3.out.keep (below_new (Below.refl _ _) _)
        have hszA : w.heap.size ≤ (w3.alloc (.cells #[.int .u8 c.toNat] 5)).heap.size := by simp; omega
        have hXl : X.length ≤ 1048576 := by
          have h1 := congrArg List.length HDr.out
          have h2 := (escL_len X).1
          have h3 := HRr.out.small
          simp only [List.length_drop, List.length_cons, List.length_append] at h1
          omega
        clear hg3 hpost HL HX2 HG2
        go_wp2_with (refine ap_one rfl _ _ rfl w.heap.size _ _ rfl HXA.out c w3.heap.size 1 rfl hk3 (by omega) hszA ?_)
        intro v5 w5 hm5
        have HX5 : Hid (Buf w5 w.heap.size v5 (X ++ [c])) := hm5.buf
        have HG5 : Hid (Gr g w w5) := Gr.more (HG3.out.trans (Gr.of (below_new (Below.refl _ _) _))) HXA.out (Nat.le_refl _) hm5
        have hrk : ∀ p' er, Rd w3 g s p' er → Rd w5 g s p' er := fun p' er hr => (hr.keep (below_new (Below.refl _ _) _)).more HXA.out hm5
        have HREL : Hid (∃ (p3 : Nat) (b3 : Bool), Rq w5 g s p3 b3 ∧ (b = false → (b3 = false → (bl s).drop p = 34 :: (escL (X ++ [c]) ++ (bl s).drop p3)) ∧ (b3 = true → ∀ y r, (bl s).drop p ≠ strE y ++ r)) ∧ leftOf s g w5 < leftOf s g wr) := by
          have hl0 := left_ok (show Rq wr g s p2 false from HRr.out)
          rcases HPo.out with ⟨p', hr', hlt', hd'⟩ | ⟨p', hr', hno⟩
          · have hr5 := hrk p' none hr'
            refine ⟨p', false, hr5, fun _ => ⟨fun _ => ?_, fun h => by cases h⟩, ?_⟩
            · rw [HDr.out, hd', escL_append]
              simp [escL]
            · rw [hl0, left_ok (show Rq w5 g s p' false from hr5)]
              have := hr5.le
              omega
          · have hr5 := hrk p' (some 10) hr'
            refine ⟨p', true, hr5, fun _ => ⟨fun h => (by cases h), fun _ y r e => ?_⟩, ?_⟩
            · rw [HDr.out] at e
              simp only [strE, quoteU, List.cons_append, List.cons.injEq, true_and, List.append_assoc, List.nil_append] at e
              obtain ⟨Y, hY⟩ := quote_rest X (bl y) _ _ e
              cases Y with
              | nil =>
                apply H34.out
                rw [hY]
                rfl
              | cons c' Y =>
                rw [escL_cons, List.append_assoc] at hY
                exact hno c' _ hY
            · rw [hl0, left_bad (show Rq w5 g s p' true from hr5)]
              omega
        obtain ⟨p3, b3, hr5, hn5, hm⟩ := HREL.out
        have HR5 : Hid (Rq w5 g s p3 b3) := hr5
        have HN5 : Hid _ := hn5
        have HM5 : Hid (leftOf s g w5 < leftOf s g wr) := hm
        clear hm5 hr5 hn5 hm hrk HREL HPo HXA HX3 HG3 hk3 ho3 HR HX HG HN HT2 HDr HRr H34
        go_wp2
        go_roundw
        case rel => exact ⟨X ++ [c], p3, b3, HX5, HR5, HG5, HN5, fun h => by rw [hbf] at h; cases h⟩
        case measure => exact HM5.out
end Go.Proofs.YtmpgfepkdhjibaaDoor
