/- My own work: the state of the document's Parse. -/
import Derived.Test.YtmpgfepkdhjibaaDoorRRc
import Derived.Test.YtmpgfepkdhjibaaDoorRd8k
namespace Go.Proofs.YtmpgfepkdhjibaaDoor
open Go.RowKit

/-- The result's place, the reader, the derivation that is read, its lists. -/
structure Ps (w wx : World) (s : ByteArray) (d : Dv) (p : Nat) (b : Bool) : Prop where
  bel : Below w.heap.size w wx
  res : Row wx w.heap.size zDrv 27
  rd : Rr wx (w.heap.size + 1) s p b
  dr : ∃ x0 x1 x2 x5 x6, Row wx (w.heap.size + 2) #[x0, x1, x2, .string d.sys, .string d.bld, x5, x6] 27 ∧ OutL (w.heap.size + 2) (w.heap.size + 1) wx x0 d.outs ∧ InL (w.heap.size + 2) (w.heap.size + 1) wx x1 d.ins ∧ StrL (w.heap.size + 2) (w.heap.size + 1) wx x2 d.srcs ∧ StrL (w.heap.size + 2) (w.heap.size + 1) wx x5 d.args ∧ PairL (w.heap.size + 2) (w.heap.size + 1) wx x6 d.env
theorem Ps.gr {w wx w' : World} {s : ByteArray} {d : Dv} {p p' : Nat} {b b' : Bool} (h : Ps w wx s d p b) (hg : Gr (w.heap.size + 1) wx w') (hr : Rr w' (w.heap.size + 1) s p' b') : Ps w w' s d p' b' := by
  obtain ⟨h1, h2, h3, x0, x1, x2, x5, x6, r, l0, l1, l2, l5, l6⟩ := h
  exact ⟨h1.trans (hg.below (by omega) h1.size), hg.row h2 (by omega), hr, x0, x1, x2, x5, x6, hg.row r (by omega), l0.gr hg (by omega), l1.gr hg (by omega), l2.gr hg (by omega), l5.gr hg (by omega), l6.gr hg (by omega)⟩
theorem Ps.bl {w wx w' : World} {s : ByteArray} {d : Dv} {p : Nat} {b : Bool} (h : Ps w wx s d p b) (hb : Below wx.heap.size wx w') : Ps w w' s d p b := h.gr (Gr.of hb) (h.rd.keep hb)
theorem OutL.grown {B g B' n z : Nat} {e : TypeId} {w w' : World} {v v' : Value} {xs : List Value} {l : List (ByteArray × ByteArray × ByteArray)} (h : OutL B g w v l) (h0 : w.ownsRow B' e z v' n xs) (hg : w.grownBy w' v'.ownBlock) (hne : 46 ≠ e) : OutL B g w' v l := by
  obtain ⟨C, h1, h2⟩ := h
  exact ⟨C, ownsRow_grown h1 h0 hg hne, h2⟩
theorem PairL.grown {B g B' n z : Nat} {e : TypeId} {w w' : World} {v v' : Value} {xs : List Value} {l : List (ByteArray × ByteArray)} (h : PairL B g w v l) (h0 : w.ownsRow B' e z v' n xs) (hg : w.grownBy w' v'.ownBlock) (hne : 60 ≠ e) : PairL B g w' v l := by
  obtain ⟨C, h1, h2⟩ := h
  exact ⟨C, ownsRow_grown h1 h0 hg hne, h2⟩
theorem StrL.grown {B g B' n z : Nat} {e : TypeId} {w w' : World} {v v' : Value} {xs : List Value} {l : List ByteArray} (h : StrL B g w v l) (h0 : w.ownsRow B' e z v' n xs) (hg : w.grownBy w' v'.ownBlock) (hne : 9 ≠ e) : StrL B g w' v l := by
  obtain ⟨C, h1, h2⟩ := h
  exact ⟨C, ownsRow_grown h1 h0 hg hne, h2⟩
theorem InL.grown {B g B' n z : Nat} {e : TypeId} {w w' : World} {v v' : Value} {xs : List Value} {l : List (ByteArray × List ByteArray)} (h : InL B g w v l) (h0 : w.ownsRow B' e z v' n xs) (hg : w.grownBy w' v'.ownBlock) (hne : 52 ≠ e) (h9 : 9 ≠ e) : InL B g w' v l := by
  obtain ⟨C, h1, ns, e1, e2, e3⟩ := h
  exact ⟨C, ownsRow_grown h1 h0 hg hne, ns, e1, e2, fun i a b => ownsRow_grown (e3 i a b) h0 hg h9⟩
theorem row_grownO {B n z : Nat} {e : TypeId} {w w' : World} {v : Value} {xs : List Value} {k : Nat} {C : Array Value} {T : TypeId} (h : Row w k C T) (h0 : w.ownsRow B e z v n xs) (hg : w.grownBy w' v.ownBlock) (hne : T ≠ e) : Row w' k C T := by
  refine (hg.block k h.lt (fun e2 => ?_)).trans h
  obtain ⟨_, _, cur, k3⟩ := ownsRow_lt h0 k e2.symm
  have k4 := k3.symm.trans h
  simp only [Option.some.injEq, Obj.cells.injEq] at k4
  exact hne k4.2.1.symm
theorem below_grownO {B0 B n z : Nat} {e : TypeId} {w0 w w' : World} {v : Value} {xs : List Value} (h : Below B0 w0 w) (h0 : w.ownsRow B e z v n xs) (hg : w.grownBy w' v.ownBlock) (hB : B0 ≤ B) (hs : B0 ≤ w.heap.size) : Below B0 w0 w' :=
  h.trans ⟨hg.os, hg.tape, hg.output, hg.size, fun k hk => hg.block k (by omega) (fun e2 => by have := (ownsRow_lt h0 k e2.symm).2.1; omega)⟩
theorem Ps.setSrcs {w wx : World} {s : ByteArray} {d : Dv} {p : Nat} {b : Bool} (h : Ps w wx s d p b) {v : Value} {l : List ByteArray} (hv : StrL (w.heap.size + 2) (w.heap.size + 1) wx v l) : Ps w (wx.setCell ⟨w.heap.size + 2, 2, none⟩ v) s { d with srcs := l } p b := by
  obtain ⟨h1, h2, h3, x0, x1, x2, x5, x6, r, l0, l1, l2, l5, l6⟩ := h
  refine ⟨h1.trans ⟨rfl, rfl, rfl, by simp [World.setCell], fun q hq => heap_setCell_other wx ⟨w.heap.size + 2, 2, none⟩ q _ (by show q ≠ w.heap.size + 2; omega)⟩, h2.setCell_other (by omega) _, ⟨h3.row.setCell_other (by omega) _, h3.le, h3.small⟩, x0, x1, v, x5, x6, r.setCell _, l0.set r (by decide), l1.set r (by decide) (by decide), hv.set r (by decide), l5.set r (by decide), l6.set r (by decide)⟩
theorem Ps.setArgs {w wx : World} {s : ByteArray} {d : Dv} {p : Nat} {b : Bool} (h : Ps w wx s d p b) {v : Value} {l : List ByteArray} (hv : StrL (w.heap.size + 2) (w.heap.size + 1) wx v l) : Ps w (wx.setCell ⟨w.heap.size + 2, 5, none⟩ v) s { d with args := l } p b := by
  obtain ⟨h1, h2, h3, x0, x1, x2, x5, x6, r, l0, l1, l2, l5, l6⟩ := h
  refine ⟨h1.trans ⟨rfl, rfl, rfl, by simp [World.setCell], fun q hq => heap_setCell_other wx ⟨w.heap.size + 2, 5, none⟩ q _ (by show q ≠ w.heap.size + 2; omega)⟩, h2.setCell_other (by omega) _, ⟨h3.row.setCell_other (by omega) _, h3.le, h3.small⟩, x0, x1, x2, v, x6, r.setCell _, l0.set r (by decide), l1.set r (by decide) (by decide), l2.set r (by decide), hv.set r (by decide), l6.set r (by decide)⟩
theorem Ps.setSys {w wx : World} {s : ByteArray} {d : Dv} {p : Nat} {b : Bool} (h : Ps w wx s d p b) (x : ByteArray) : Ps w (wx.setCell ⟨w.heap.size + 2, 3, none⟩ (.string x)) s { d with sys := x } p b := by
  obtain ⟨h1, h2, h3, x0, x1, x2, x5, x6, r, l0, l1, l2, l5, l6⟩ := h
  refine ⟨h1.trans ⟨rfl, rfl, rfl, by simp [World.setCell], fun q hq => heap_setCell_other wx ⟨w.heap.size + 2, 3, none⟩ q _ (by show q ≠ w.heap.size + 2; omega)⟩, h2.setCell_other (by omega) _, ⟨h3.row.setCell_other (by omega) _, h3.le, h3.small⟩, x0, x1, x2, x5, x6, r.setCell _, l0.set r (by decide), l1.set r (by decide) (by decide), l2.set r (by decide), l5.set r (by decide), l6.set r (by decide)⟩
theorem Ps.setBld {w wx : World} {s : ByteArray} {d : Dv} {p : Nat} {b : Bool} (h : Ps w wx s d p b) (x : ByteArray) : Ps w (wx.setCell ⟨w.heap.size + 2, 4, none⟩ (.string x)) s { d with bld := x } p b := by
  obtain ⟨h1, h2, h3, x0, x1, x2, x5, x6, r, l0, l1, l2, l5, l6⟩ := h
  refine ⟨h1.trans ⟨rfl, rfl, rfl, by simp [World.setCell], fun q hq => heap_setCell_other wx ⟨w.heap.size + 2, 4, none⟩ q _ (by show q ≠ w.heap.size + 2; omega)⟩, h2.setCell_other (by omega) _, ⟨h3.row.setCell_other (by omega) _, h3.le, h3.small⟩, x0, x1, x2, x5, x6, r.setCell _, l0.set r (by decide), l1.set r (by decide) (by decide), l2.set r (by decide), l5.set r (by decide), l6.set r (by decide)⟩
/-- One more of a list, laid down in the derivation. -/
theorem Ps.appOut {w wx w5 : World} {s : ByteArray} {d : Dv} {p : Nat} {b : Bool} {x0 x1 x2 x5 x6 v5 : Value} {C : List Value} {x : ByteArray × ByteArray × ByteArray} (h1 : Below w.heap.size w wx) (h2 : Row wx w.heap.size zDrv 27) (h3 : Rr wx (w.heap.size + 1) s p b) (r : Row wx (w.heap.size + 2) #[x0, x1, x2, .string d.sys, .string d.bld, x5, x6] 27)
    (l1 : InL (w.heap.size + 2) (w.heap.size + 1) wx x1 d.ins) (l2 : StrL (w.heap.size + 2) (w.heap.size + 1) wx x2 d.srcs) (l5 : StrL (w.heap.size + 2) (w.heap.size + 1) wx x5 d.args) (l6 : PairL (w.heap.size + 2) (w.heap.size + 1) wx x6 d.env) (ho : wx.ownsRow (w.heap.size + 2) 46 3 x0 d.outs.length C) (hg : wx.grownBy w5 x0.ownBlock) (hn0 : OutL (w.heap.size + 2) (w.heap.size + 1) w5 v5 (d.outs ++ [x])) : Ps w (w5.setCell ⟨w.heap.size + 2, 0, none⟩ v5) s { d with outs := d.outs ++ [x] } p b := by
  have rg := row_grownO r ho hg (by decide)
  have hn := hn0
  have hb5 := below_grownO h1 ho hg (by omega) h1.size
  refine ⟨hb5.trans ⟨rfl, rfl, rfl, by simp [World.setCell], fun q hq => heap_setCell_other w5 ⟨w.heap.size + 2, 0, none⟩ q _ (by show q ≠ w.heap.size + 2; omega)⟩, (row_grownO h2 ho hg (by decide)).setCell_other (by omega) _, ⟨(row_grownO h3.row ho hg (by decide)).setCell_other (by omega) _, h3.le, h3.small⟩, v5, x1, x2, x5, x6, rg.setCell _, hn.set rg (by decide), (l1.grown ho hg (by decide) (by decide)).set rg (by decide) (by decide), (l2.grown ho hg (by decide)).set rg (by decide), (l5.grown ho hg (by decide)).set rg (by decide), (l6.grown ho hg (by decide)).set rg (by decide)⟩
/-- One more of a list, laid down in the derivation. -/
theorem Ps.appIn {w wx w5 : World} {s : ByteArray} {d : Dv} {p : Nat} {b : Bool} {x0 x1 x2 x5 x6 v5 : Value} {C : List Value} {x : ByteArray × List ByteArray} (h1 : Below w.heap.size w wx) (h2 : Row wx w.heap.size zDrv 27) (h3 : Rr wx (w.heap.size + 1) s p b) (r : Row wx (w.heap.size + 2) #[x0, x1, x2, .string d.sys, .string d.bld, x5, x6] 27)
    (l0 : OutL (w.heap.size + 2) (w.heap.size + 1) wx x0 d.outs) (l2 : StrL (w.heap.size + 2) (w.heap.size + 1) wx x2 d.srcs) (l5 : StrL (w.heap.size + 2) (w.heap.size + 1) wx x5 d.args) (l6 : PairL (w.heap.size + 2) (w.heap.size + 1) wx x6 d.env) (ho : wx.ownsRow (w.heap.size + 2) 52 2 x1 d.ins.length C) (hg : wx.grownBy w5 x1.ownBlock) (hn0 : InL (w.heap.size + 2) (w.heap.size + 1) w5 v5 (d.ins ++ [x])) : Ps w (w5.setCell ⟨w.heap.size + 2, 1, none⟩ v5) s { d with ins := d.ins ++ [x] } p b := by
  have rg := row_grownO r ho hg (by decide)
  have hn := hn0
  have hb5 := below_grownO h1 ho hg (by omega) h1.size
  refine ⟨hb5.trans ⟨rfl, rfl, rfl, by simp [World.setCell], fun q hq => heap_setCell_other w5 ⟨w.heap.size + 2, 1, none⟩ q _ (by show q ≠ w.heap.size + 2; omega)⟩, (row_grownO h2 ho hg (by decide)).setCell_other (by omega) _, ⟨(row_grownO h3.row ho hg (by decide)).setCell_other (by omega) _, h3.le, h3.small⟩, x0, v5, x2, x5, x6, rg.setCell _, (l0.grown ho hg (by decide)).set rg (by decide), hn.set rg (by decide) (by decide), (l2.grown ho hg (by decide)).set rg (by decide), (l5.grown ho hg (by decide)).set rg (by decide), (l6.grown ho hg (by decide)).set rg (by decide)⟩
/-- One more of a list, laid down in the derivation. -/
theorem Ps.appEnv {w wx w5 : World} {s : ByteArray} {d : Dv} {p : Nat} {b : Bool} {x0 x1 x2 x5 x6 v5 : Value} {C : List Value} {x : ByteArray × ByteArray} (h1 : Below w.heap.size w wx) (h2 : Row wx w.heap.size zDrv 27) (h3 : Rr wx (w.heap.size + 1) s p b) (r : Row wx (w.heap.size + 2) #[x0, x1, x2, .string d.sys, .string d.bld, x5, x6] 27)
    (l0 : OutL (w.heap.size + 2) (w.heap.size + 1) wx x0 d.outs) (l1 : InL (w.heap.size + 2) (w.heap.size + 1) wx x1 d.ins) (l2 : StrL (w.heap.size + 2) (w.heap.size + 1) wx x2 d.srcs) (l5 : StrL (w.heap.size + 2) (w.heap.size + 1) wx x5 d.args) (ho : wx.ownsRow (w.heap.size + 2) 60 2 x6 d.env.length C) (hg : wx.grownBy w5 x6.ownBlock) (hn0 : PairL (w.heap.size + 2) (w.heap.size + 1) w5 v5 (d.env ++ [x])) : Ps w (w5.setCell ⟨w.heap.size + 2, 6, none⟩ v5) s { d with env := d.env ++ [x] } p b := by
  have rg := row_grownO r ho hg (by decide)
  have hn := hn0
  have hb5 := below_grownO h1 ho hg (by omega) h1.size
  refine ⟨hb5.trans ⟨rfl, rfl, rfl, by simp [World.setCell], fun q hq => heap_setCell_other w5 ⟨w.heap.size + 2, 6, none⟩ q _ (by show q ≠ w.heap.size + 2; omega)⟩, (row_grownO h2 ho hg (by decide)).setCell_other (by omega) _, ⟨(row_grownO h3.row ho hg (by decide)).setCell_other (by omega) _, h3.le, h3.small⟩, x0, x1, x2, x5, v5, rg.setCell _, (l0.grown ho hg (by decide)).set rg (by decide), (l1.grown ho hg (by decide) (by decide)).set rg (by decide) (by decide), (l2.grown ho hg (by decide)).set rg (by decide), (l5.grown ho hg (by decide)).set rg (by decide), hn.set rg (by decide)⟩
theorem Oc.split {X Y : List UInt8} {s : ByteArray} {p p' : Nat} {b b' : Bool} (h : Oc (conE (X ++ Y)) s p b () p' b') : ∃ pm bm, Oc (conE X) s p b () pm bm ∧ Oc (conE Y) s pm bm () p' b' := by
  cases b with
  | true =>
    have e := h.1 rfl
    subst e
    exact ⟨p, true, Oc.stay, Oc.stay⟩
  | false =>
    rcases h.2 rfl with ⟨e1, e2⟩ | ⟨e1, e2⟩
    · subst e1
      have e3 : (bl s).drop (p + X.length) = Y ++ (bl s).drop p' := by
        rw [← List.drop_drop, e2]
        unfold conE
        rw [List.append_assoc, List.drop_left]
      refine ⟨p + X.length, false, ⟨fun e => absurd e (by decide), fun _ => .inl ⟨rfl, ?_⟩⟩, fun e => absurd e (by decide), fun _ => .inl ⟨rfl, e3⟩⟩
      rw [e3, e2]
      unfold conE
      rw [List.append_assoc]
    · subst e1
      by_cases hx : ∃ r, (bl s).drop p = X ++ r
      · obtain ⟨r, hr⟩ := hx
        have e3 : (bl s).drop (p + X.length) = r := by rw [← List.drop_drop, hr, List.drop_left]
        refine ⟨p + X.length, false, ⟨fun e => absurd e (by decide), fun _ => .inl ⟨rfl, by rw [e3, hr]; rfl⟩⟩, fun _ => rfl, fun _ => .inr ⟨rfl, fun _ r' e => e2 () r' ?_⟩⟩
        rw [e3] at e
        rw [hr, e]
        unfold conE
        rw [List.append_assoc]
      · exact ⟨p, true, ⟨fun _ => rfl, fun _ => .inr ⟨rfl, fun _ r e => hx ⟨r, e⟩⟩⟩, Oc.stay⟩
end Go.Proofs.YtmpgfepkdhjibaaDoor
