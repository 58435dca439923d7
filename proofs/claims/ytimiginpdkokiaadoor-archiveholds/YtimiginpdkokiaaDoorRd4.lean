/- My own work: nodes that are read, in memory; the walks of Clone, data, file and link. -/
import Derived.Test.YtimiginpdkokiaaDoorRd3
import Derived.Test.YtimiginpdkokiaaDoorOwnSt
import Derived.Test.YtimiginpdkokiaaDoorRStr
import Derived.Test.YtimiginpdkokiaaDoorRCell
namespace Go.Proofs.YtimiginpdkokiaaDoor
open Go.RowKit

/-- A node without anything. -/
abbrev node0 : Array Value := nodeV 0 false none 0 0 none 0 0 none 0 0
/-- What a call that reads a node tells. -/
def NodePost (I : Inp) (w : World) (spec : Except Int (Nd × Nat)) (r : Ending) (w' : World) : Prop :=
  Gr I w w' ∧ match spec with
    | .error e => ∃ C ev, r = .returned (.tuple #[.agg C, ev]) ∧ C.size = 5 ∧ C.all (fun x => x.oneCell') = true ∧ ErrAt w' ev e
    | .ok (n, q) => ∃ C, r = .returned (.tuple #[.agg C, .nilIface]) ∧ NodeOn w' (fun b => w.heap.size ≤ b ∧ b < w'.heap.size) n C ∧ Rdr w' I q
theorem NodePost.shape {I : Inp} {w w' : World} {spec : Except Int (Nd × Nat)} {r : Ending} (h : NodePost I w spec r w') : ∃ C ev, r = .returned (.tuple #[.agg C, ev]) ∧ C.size = 5 ∧ C.all (fun x => x.oneCell') = true := by
  obtain ⟨_, h⟩ := h
  cases spec with
  | error e => obtain ⟨C, ev, h1, h2, h3, _⟩ := h; exact ⟨C, ev, h1, h2, h3⟩
  | ok x =>
    obtain ⟨n, q⟩ := x
    obtain ⟨C, h1, h2, _⟩ := h
    exact ⟨C, _, h1, h2.at'.size, h2.at'.one⟩
theorem Gr.setRow {I : Inp} {w w1 : World} {g : Nat} {C : Array Value} (h : Gr I w w1) (hg : w.heap.size ≤ g) : Gr I w (w1.setRow g C) :=
  ⟨h.os, h.tape, h.output, by simp [World.setRow]; exact h.size, fun k hk hne => (setRow_other w1 g k C (by omega)).trans (h.block k hk hne)⟩
theorem Rdr.lts {I : Inp} {w : World} {p : Nat} (h : Rdr w I p) : I.gR < w.heap.size ∧ (0 < I.L → I.b < w.heap.size) := ⟨h.row.lt, fun hL => World.block_lt_of_cell? w _ (h.cell 0 hL)⟩
/-- A reader stays where its own block and its bytes stay. -/
theorem Rdr.stay {I : Inp} {w w' : World} {p : Nat} (h : Rdr w I p) (hk : ∀ k, k = I.gR ∨ (0 < I.L ∧ k = I.b) → w'.heap[k]? = w.heap[k]?) : Rdr w' I p :=
  ⟨(hk _ (.inl rfl)).trans h.row, h.at', fun i hi => (World.cell?_of_block (w := w) (hk _ (.inr ⟨by omega, rfl⟩))).trans (h.cell i hi), h.bd, h.ne, h.le, h.cap, h.cm, h.small⟩
theorem NodePost.out {I : Inp} {w wc w1 : World} {g : Nat} {Z C : Array Value} {ev : Value} {spec : Except Int (Nd × Nat)} (hgr : Gr I w wc) (hlt : w.heap.size ≤ g) (hg : g < wc.heap.size) {p0 : Nat} (h0 : Rdr w I p0) (hr : Row w1 g Z 26) (hp : NodePost I wc spec (.returned (.tuple #[.agg C, ev])) w1) : NodePost I w spec (.returned (.tuple #[.agg C, ev])) (w1.setRow g C) := by
  obtain ⟨h1, h2⟩ := hp
  have hsz : (w1.setRow g C).heap.size = w1.heap.size := by simp [World.setRow]
  refine ⟨Gr.setRow (hgr.trans h1) hlt, ?_⟩
  cases spec with
  | error e =>
    obtain ⟨C', ev', he, h5, h6, g', q, h7, h8⟩ := h2
    simp only [Ending.returned.injEq, Value.tuple.injEq, Array.mk.injEq, List.cons.injEq, Value.agg.injEq, and_true] at he
    obtain ⟨rfl, rfl⟩ := he
    exact ⟨C, ev, rfl, h5, h6, g', q, h7, h8.other (row_apart h8 hr (by decide))⟩
  | ok x =>
    obtain ⟨n, q⟩ := x
    obtain ⟨C', he, h5, h6⟩ := h2
    simp only [Ending.returned.injEq, Value.tuple.injEq, Array.mk.injEq, List.cons.injEq, Value.agg.injEq, and_true] at he
    obtain ⟨rfl, rfl⟩ := he
    have hwc := hgr.size
    refine ⟨C, rfl, (h5.keep (w' := w1.setRow g C) fun b hb => setRow_other w1 g b C (by omega)).mono fun b hb => ⟨by omega, by rw [hsz]; exact hb.2⟩, ?_⟩
    have hl := h0.lts
    exact h6.stay fun k hk => setRow_other w1 g k C (by
      rcases hk with rfl | ⟨hL, rfl⟩
      · omega
      · have := hl.2 hL; omega)
section
variable {ops : Array Oper} {S : World → Prop} {Q : Act → World → Prop} {a : Act} {w : World} {o : Oper} {i : Nat} {fs : List (Bool × Nat)}
theorem a_store5 (x y : Operand) (hi : ops[i]? = some o) (hd : o.dst = none) (ho : o.op = .store 26 x y) (hw : Region.wanted o (yielded ops a.tmps) = true) (g : Nat) (hx : a.eval x = .pointer (some ⟨g, 0, none⟩)) (C : Array Value) (hy : a.eval y = .agg C) (hC : C.size = 5) (Z : Array Value) (hr : Row w g Z 26) (hZ : Z.size = 5) (h1 : C.all (fun x => x.oneCell') = true)
    (hS : S (w.setRow g C)) (k : wpPermA Tryd.prog ops S Q fs a (w.setRow g C)) : wpPermA Tryd.prog ops S Q ((true, i) :: fs) a w :=
  a_wp hi hw (wp_store_row 26 x y ho g C hx hy 26 Z hr (by rw [infoN, hC]) (by rw [hZ, hC]) h1 (by rw [hd]; exact ⟨hS, k⟩))
end
theorem node0_one : node0.all (fun x => x.oneCell') = true := nodeV_one _ _ _ _ _ _ _ _ _ _ _
/-- A file or a link, its bytes in a row of their own. -/
theorem leaf_on {w : World} {B : Nat} {a : Option Addr} {c : Nat} {d : ByteArray} (k : Int) (e : Bool) (hk : -9223372036854775808 ≤ k ∧ k ≤ 9223372036854775807) (h : Buf w B (.slice a d.size c) d.data.toList) (hd : d.size ≤ big) : NodeOn w (fun b => B ≤ b ∧ b < w.heap.size) (.mk k e d [] []) (nodeV k e a d.size c none 0 0 none 0 0) := by
  have hl : d.data.toList.length = d.size := by rw [Array.length_toList]; rfl
  have h' : w.ownsRow B 5 1 (.slice a d.size c) d.size (u8s d.data.toList) := by have := h; unfold Buf at this; rw [hl] at this; exact this
  obtain ⟨db, d1, d2, d3, d5, d6, d7⟩ := own_parts h'
  refine .mk (db := db) (doff := 0) (nb := 0) (noff := 0) (kb := 0) (koff := 0) (Cs := fun _ => #[]) hk ⟨d1, fun i hi => ?_, d3, d5, d6, hd, d7⟩ ⟨fun h => absurd h (by simp), fun i hi => absurd hi (by simp), fun _ => ⟨rfl, rfl⟩, Nat.le_refl _, by unfold maxLen; omega, by unfold big; exact Nat.zero_le _, (fun s hs => by cases hs), fun h => absurd h (by simp)⟩
    ⟨fun h => absurd h (by simp), fun i hi => absurd hi (by simp), fun i hi => absurd hi (by simp), fun _ => ⟨rfl, rfl⟩, Nat.le_refl _, by unfold maxLen; omega⟩ (fun h => absurd h (by simp)) (fun i hi => absurd hi (by simp))
  rw [Nat.zero_add, d2 i (by omega) (by omega)]
  have hi' : i < d.data.size := hi
  unfold u8s bf
  rw [List.getElem?_map, Array.getElem?_toList, Array.getElem?_eq_getElem hi']
  rfl
theorem slice_nil (w : World) (b o n c : Nat) : (binOp .eql 22 (.slice (some ⟨b, o, none⟩) n c) (.slice none 0 0)).run Tryd.prog w = .ok (.bool false) w := by kernel_rfl
set_option maxRecDepth 20000 in
set_option maxHeartbeats 2000000 in
theorem clone_ok (b o n c : Nat) (f : Nat → Int) (s : Nat) (hf : ∀ i, 0 ≤ f i ∧ f i < 256) (w : World) (hn : n ≤ 1048576) (hcell : ∀ i, i < n → w.cell? ⟨b, o + i, none⟩ = some (.int .u8 (f (s + i)))) : Calls Tryd.prog 80 #[.slice (some ⟨b, o, none⟩) n c] w fun r w' => ∃ v, r = .returned v ∧ Buf w' w.heap.size v (textF f s n).data.toList ∧ Below w.heap.size w w' := by
  have hb : Below w.heap.size w (w.alloc (.cells #[] 5)) := (Below.refl _ _).alloc (Nat.le_refl _) _
  have HB : Hid (Below w.heap.size w (w.alloc (.cells #[] 5))) := hb
  have HE : Hid (Buf (w.alloc (.cells #[] 5)) w.heap.size (.slice (some ⟨w.heap.size, 0, none⟩) 0 0) []) := own_empty w 5 1 w.heap.size (Nat.le_refl _)
  have hl : (textF f s n).data.toList.length = n := by rw [Array.length_toList]; exact textF_size f s n
  have HC : Hid (∀ j u, (u8s (textF f s n).data.toList)[j]? = some u → (w.alloc (.cells #[] 5)).cell? ((⟨b, o, none⟩ : Addr).add j) = some u) := fun j u hj => by
    have hjl : j < n := by have := (List.getElem?_eq_some_iff.1 hj).1; rw [u8s_length, hl] at this; exact this
    have hc := hcell j hjl
    have ha : (⟨b, o, none⟩ : Addr).add j = ⟨b, o + j, none⟩ := by unfold Addr.add; split <;> simp_all
    have hfj := hf (s + j)
    rw [ha, World.cell?_of_block (w := w) (hb.block b (World.block_lt_of_cell? w _ hc)), hc, ← hj]
    simp only [u8s, textF, List.getElem?_map, List.getElem?_range hjl, Option.map_some]
    rw [UInt8.toNat_ofNat', Nat.mod_eq_of_lt (by simp; omega)]
    congr 2
    omega
  have hsz : w.heap.size ≤ (w.alloc (.cells #[] 5)).heap.size := hb.size
  have HLN : Hid (([] : List UInt8).length + (textF f s n).data.toList.length ≤ 140737488355328) := by show _ ≤ _; rw [hl]; simp only [List.length_nil]; omega
  obtain ⟨Y, hY⟩ : ∃ Y, Y = (textF f s n).data.toList := ⟨_, rfl⟩
  rw [← hY] at HC HLN hl ⊢
  have hsn := slice_nil w b o n c
  clear hcell hb hY
  go_enter Tryd.func80, Tryd.ntmps80
  go_wp2_with (refine ap_slice rfl _ _ rfl w.heap.size _ [] rfl HE.out ⟨b, o, none⟩ c Y (by rw [hl]; rfl) HC.out HLN.out hsz ?_)
  intro v w2 hm
  have HM : Hid (Buf w2 w.heap.size v Y) := hm.buf
  have HB2 : Hid (Below w.heap.size w w2) := HB.out.trans (hm.below HE.out hsz)
  clear hm HE HC HB
  go_wp2
  go_ret
  exact ⟨_, rfl, HM.out, HB2.out⟩
end Go.Proofs.YtimiginpdkokiaaDoor
