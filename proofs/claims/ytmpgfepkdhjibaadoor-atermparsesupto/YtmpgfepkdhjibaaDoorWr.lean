/- My own work: a writer in memory, and what it has written; put and quoted. -/
import Derived.Test.YtmpgfepkdhjibaaDoorQuo
import Derived.Test.YtmpgfepkdhjibaaDoorLawQ
import Derived.Test.YtmpgfepkdhjibaaDoorDv
namespace Go.Proofs.YtmpgfepkdhjibaaDoor
open Go.RowKit

/-- What a writer leaves as it is. -/
structure Fr (g : Nat) (w w' : World) : Prop where
  bel : Below g w w'
  rows : ∀ k C t, Row w k C t → t ≠ 5 → t ≠ 55 → Row w' k C t
theorem Fr.refl (g : Nat) (w : World) : Fr g w w := ⟨Below.refl _ _, fun _ _ _ h _ _ => h⟩
theorem Fr.trans {g : Nat} {w w1 w2 : World} (h1 : Fr g w w1) (h2 : Fr g w1 w2) : Fr g w w2 := ⟨h1.bel.trans h2.bel, fun k C t h a b => h2.rows k C t (h1.rows k C t h a b) a b⟩
theorem Fr.of {g : Nat} {w w' : World} (hb : Below w.heap.size w w') (hg : g ≤ w.heap.size) : Fr g w w' := ⟨hb.mono hg, fun _ _ _ h _ _ => h.below hb h.lt⟩
theorem Fr.tab {g : Nat} {w w' : World} (h : Fr g w w') (hg : 0 < g) (hT : ETab w) : ETab w' := hT.below h.bel hg
/-- A writer that was given these bytes to write. -/
structure Wr (w : World) (g : Nat) (T : List UInt8) : Prop where
  ex : ∃ v big X, Row w g #[v, .bool big] 55 ∧ Buf w (g + 1) v X ∧ X.length ≤ 1048576 ∧ ((big = false ∧ X = T) ∨ (big = true ∧ 1048576 < T.length))
theorem Wr.lt {w : World} {g : Nat} {T : List UInt8} (h : Wr w g T) : g < w.heap.size := by
  obtain ⟨v, big, X, hr, _⟩ := h.ex
  exact hr.lt
theorem Wr.keep {w w' : World} {g : Nat} {T : List UInt8} (h : Wr w g T) (hb : Below w.heap.size w w') : Wr w' g T := by
  obtain ⟨v, big, X, hr, hx, h1, h2⟩ := h.ex
  exact ⟨v, big, X, hr.below hb hr.lt, hx.keep hb, h1, h2⟩
theorem buf_set {w : World} {g k : Nat} {v x : Value} {X : List UInt8} (h : Buf w (g + 1) v X) : Buf (w.setCell ⟨g, k, none⟩ x) (g + 1) v X :=
  ownsRow_keep h (fun q hq _ => heap_setCell_other w ⟨g, k, none⟩ q x (by have := (ownsRow_lt h q hq).2.1; simp; omega))
theorem fr_set {w : World} {g k : Nat} {C : Array Value} {x : Value} (h : Row w g C 55) : Fr g w (w.setCell ⟨g, k, none⟩ x) :=
  ⟨(Below.refl g w).setCell (show g ≤ (⟨g, k, none⟩ : Addr).block from Nat.le_refl g) x, fun _ _ _ hr _ ht => hr.setCell_other (row_apart hr h ht) x⟩
set_option maxRecDepth 20000 in
set_option maxHeartbeats 2000000 in
theorem put_ok (g : Nat) (T : List UInt8) (s : ByteArray) (w : World) (h : Wr w g T) : Calls Tryd.prog 32 #[.pointer (some ⟨g, 0, none⟩), .string s] w fun e w' => (∃ v, e = .returned v) ∧ Wr w' g (T ++ bl s) ∧ Fr g w w' := by
  obtain ⟨v, big, X, hr, hx, hX, hc⟩ := h.ex
  obtain ⟨va, vc, rfl⟩ := buf_slice hx
  have hbl := bl_len s
  have c0 := (hr.cell 0).trans (rfl : _ = some (Value.slice va X.length vc))
  have c1 := (hr.cell 1).trans (rfl : _ = some (Value.bool big))
  have z1 := hr.frozen 1
  have HW : Hid (Wr w g T) := h
  rcases hc with ⟨rfl, rfl⟩ | ⟨rfl, hT⟩
  · by_cases hfit : X.length + s.size ≤ 1048576
    · have h1 : ¬ ((1048576 : Int) - (X.length : Int) < (s.size : Int)) := by omega
      have hd1 : decide ((1048576 : Int) - (X.length : Int) < (s.size : Int)) = false := decide_eq_false h1
      have hr1 : Row (w.setCell ⟨g, 1, none⟩ (.bool false)) g #[.slice va X.length vc, .bool false] 55 := hr.setCell _
      have hx1 : Buf (w.setCell ⟨g, 1, none⟩ (.bool false)) (g + 1) (.slice va X.length vc) X := buf_set hx
      have k0 := (hr1.cell 0).trans (rfl : _ = some (Value.slice va X.length vc))
      have k1 := (hr1.cell 1).trans (rfl : _ = some (Value.bool false))
      have HF1 : Hid (Fr g w (w.setCell ⟨g, 1, none⟩ (.bool false))) := fr_set hr
      have hsz : g + 1 ≤ (w.setCell ⟨g, 1, none⟩ (.bool false)).heap.size := hr1.lt
      have HR1 : Hid _ := hr1
      have HX1 : Hid _ := hx1
      generalize hw1 : w.setCell ⟨g, 1, none⟩ (.bool false) = w1 at *
      clear h hr hx hr1 hx1
      go_enter Tryd.func32, Tryd.ntmps32
      go_wp2_with (refine ap_str rfl _ _ rfl (g + 1) _ _ rfl HX1.out s rfl (by omega) hsz ?_)
      intro v2 w2 hm
      obtain ⟨va2, vc2, rfl⟩ := buf_slice hm.buf
      have hr2 : Row w2 g #[.slice va X.length vc, .bool false] 55 := hm.row HX1.out HR1.out (by decide)
      have j0 := (hr2.cell 0).trans (rfl : _ = some (Value.slice va X.length vc))
      have z0 := hr2.frozen 0
      have HR2 : Hid (Row (w2.setCell ⟨g, 0, none⟩ (.slice va2 (X ++ bl s).length vc2)) g #[.slice va2 (X ++ bl s).length vc2, .bool false] 55) := hr2.setCell _
      have HX2 : Hid (Buf (w2.setCell ⟨g, 0, none⟩ (.slice va2 (X ++ bl s).length vc2)) (g + 1) (.slice va2 (X ++ bl s).length vc2) (X ++ bl s)) := buf_set hm.buf
      have HF2 : Hid (Fr g w (w2.setCell ⟨g, 0, none⟩ (.slice va2 (X ++ bl s).length vc2))) := by
        have f1 : Fr g w1 w2 := ⟨(hm.below HX1.out hsz).mono (by omega), fun k C t hk h5 _ => hm.row HX1.out hk h5⟩
        exact HF1.out.trans (f1.trans (fr_set hr2))
      clear hm hr2
      have hln : (X ++ bl s).length ≤ 1048576 := by rw [List.length_append]; omega
      obtain ⟨L, hL⟩ : ∃ L, L = (X ++ bl s).length := ⟨_, rfl⟩
      rw [← hL] at HR2 HX2 HF2 ⊢
      have HLL : Hid (L = (X ++ bl s).length) := hL
      clear hL
      go_wp2
      go_end0
      refine ⟨⟨_, rfl⟩, ⟨_, false, _, HR2.out, ?_, hln, .inl ⟨rfl, rfl⟩⟩, HF2.out⟩
      exact HX2.out
    · have h1 : (1048576 : Int) - (X.length : Int) < (s.size : Int) := by omega
      have hd1 : decide ((1048576 : Int) - (X.length : Int) < (s.size : Int)) = true := decide_eq_true h1
      have HW2 : Hid (Wr (w.setCell ⟨g, 1, none⟩ (.bool true)) g (X ++ bl s)) := ⟨_, true, _, hr.setCell _, buf_set hx, hX, .inr ⟨rfl, by rw [List.length_append]; omega⟩⟩
      have HF1 : Hid (Fr g w (w.setCell ⟨g, 1, none⟩ (.bool true))) := fr_set hr
      have k1 := ((hr.setCell (i := 1) (.bool true)).cell 1).trans (rfl : _ = some (Value.bool true))
      clear h hr hx
      go_enter Tryd.func32, Tryd.ntmps32
      go_wp2
      go_end0
      exact ⟨⟨_, rfl⟩, HW2.out, HF1.out⟩
  · have HW2 : Hid (Wr (w.setCell ⟨g, 1, none⟩ (.bool true)) g (T ++ bl s)) := ⟨_, true, _, hr.setCell _, buf_set hx, hX, .inr ⟨rfl, by rw [List.length_append]; omega⟩⟩
    have HF1 : Hid (Fr g w (w.setCell ⟨g, 1, none⟩ (.bool true))) := fr_set hr
    have k1 := ((hr.setCell (i := 1) (.bool true)).cell 1).trans (rfl : _ = some (Value.bool true))
    clear h hr hx
    go_enter Tryd.func32, Tryd.ntmps32
    go_wp2
    go_end0
    exact ⟨⟨_, rfl⟩, HW2.out, HF1.out⟩
set_option maxRecDepth 20000 in
set_option maxHeartbeats 2000000 in
theorem quoted_ok (g : Nat) (T : List UInt8) (s : ByteArray) (w : World) (h : Wr w g T) (hT : ETab w) (hg : 0 < g) : Calls Tryd.prog 38 #[.pointer (some ⟨g, 0, none⟩), .string s] w fun e w' => (∃ v, e = .returned v) ∧ Wr w' g (T ++ quoteU (bl s)) ∧ Fr g w w' := by
  obtain ⟨v, big, X, hr, hx, hX, hc⟩ := h.ex
  have hbl := bl_len s
  have hql := quoteU_len (bl s)
  have c1 := (hr.cell 1).trans (rfl : _ = some (Value.bool big))
  have z1 := hr.frozen 1
  rcases hc with ⟨rfl, rfl⟩ | ⟨rfl, hT2⟩
  · by_cases hfit : s.size ≤ 1048576
    · have h1 : ¬ ((1048576 : Int) < (s.size : Int)) := by omega
      have hd1 : decide ((1048576 : Int) < (s.size : Int)) = false := decide_eq_false h1
      have hf1 : Fr g w (w.setCell ⟨g, 1, none⟩ (.bool false)) := fr_set hr
      have hw1 : Wr (w.setCell ⟨g, 1, none⟩ (.bool false)) g X := ⟨_, false, _, hr.setCell _, buf_set hx, hX, .inl ⟨rfl, rfl⟩⟩
      have k1 := ((hr.setCell (i := 1) (.bool false)).cell 1).trans (rfl : _ = some (Value.bool false))
      have HQ : Hid (Calls Tryd.prog 17 #[.string s] (w.setCell ⟨g, 1, none⟩ (.bool false)) fun e w' => e = .returned (.string (quoteS s)) ∧ Below (w.setCell ⟨g, 1, none⟩ (.bool false)).heap.size (w.setCell ⟨g, 1, none⟩ (.bool false)) w') := quote_ok s _ (hf1.tab hg hT) (by omega)
      have HF1 : Hid _ := hf1
      have HW1 : Hid _ := hw1
      clear h hr hx hf1 hw1
      go_enter Tryd.func38, Tryd.ntmps38
      go_wp2_with fail
      refine Calls.mono HQ.out ?_
      rintro e w2 ⟨rfl, hb2⟩
      have hw2 : Wr w2 g X := Wr.keep HW1.out hb2
      have HF2 : Hid (Fr g w w2) := Fr.trans HF1.out (Fr.of hb2 (Nat.le_of_lt (Wr.lt HW1.out)))
      have HP := put_ok g X (quoteS s) w2 hw2
      clear hw2 hb2 HQ HF1 HW1
      go_wp2_with fail
      refine Calls.mono HP ?_
      rintro e w3 ⟨⟨v3, rfl⟩, hw3, hf3⟩
      have HE : Hid (Wr w3 g (X ++ quoteU (bl s)) ∧ Fr g w w3) := ⟨hw3, HF2.out.trans hf3⟩
      clear hw3 hf3 HP HF2
      go_wp2
      go_end0
      exact ⟨⟨_, rfl⟩, HE.out⟩
    · have h1 : ((1048576 : Int) < (s.size : Int)) := by omega
      have hd1 : decide ((1048576 : Int) < (s.size : Int)) = true := decide_eq_true h1
      have HW2 : Hid (Wr (w.setCell ⟨g, 1, none⟩ (.bool true)) g (X ++ quoteU (bl s))) := ⟨_, true, _, hr.setCell _, buf_set hx, hX, .inr ⟨rfl, by rw [List.length_append]; omega⟩⟩
      have HF1 : Hid (Fr g w (w.setCell ⟨g, 1, none⟩ (.bool true))) := fr_set hr
      have k1 := ((hr.setCell (i := 1) (.bool true)).cell 1).trans (rfl : _ = some (Value.bool true))
      clear h hr hx
      go_enter Tryd.func38, Tryd.ntmps38
      go_wp2
      go_end0
      exact ⟨⟨_, rfl⟩, HW2.out, HF1.out⟩
  · have HW2 : Hid (Wr (w.setCell ⟨g, 1, none⟩ (.bool true)) g (T ++ quoteU (bl s))) := ⟨_, true, _, hr.setCell _, buf_set hx, hX, .inr ⟨rfl, by rw [List.length_append]; omega⟩⟩
    have HF1 : Hid (Fr g w (w.setCell ⟨g, 1, none⟩ (.bool true))) := fr_set hr
    have k1 := ((hr.setCell (i := 1) (.bool true)).cell 1).trans (rfl : _ = some (Value.bool true))
    clear h hr hx
    go_enter Tryd.func38, Tryd.ntmps38
    go_wp2
    go_end0
    exact ⟨⟨_, rfl⟩, HW2.out, HF1.out⟩
end Go.Proofs.YtmpgfepkdhjibaaDoor
