/- My own work: the walks of longest, allRise and Right. -/
import Derived.Test.YtmpgfepkdhjibaaDoorRises
namespace Go.Proofs.YtmpgfepkdhjibaaDoor
open Go.RowKit

/-- How many elements the longest of some lists of names has, and not fewer than m. -/
def longI (m : Nat) (l : List (ByteArray × List ByteArray)) : Nat := l.foldl (fun m x => max m x.2.length) m
/-- How many elements the longest list has. -/
def longN (d : Dv) : Nat := longI (max (max (max (max d.outs.length d.ins.length) d.srcs.length) d.args.length) d.env.length) d.ins
theorem longI_take (m : Nat) (l : List (ByteArray × List ByteArray)) (i : Nat) (h : i < l.length) : longI m (l.take (i + 1)) = max (longI m (l.take i)) l[i].2.length := by
  unfold longI
  rw [List.take_succ_eq_append_getElem h, List.foldl_append]
  rfl
/-- Do all lists rise that must? -/
def allRiseB (d : Dv) : Bool := d.ins.all (fun x => risesB x.2) && risesB (d.outs.map (·.1)) && risesB (d.ins.map (·.1)) && risesB d.srcs && risesB (d.env.map (·.1))
/-- What is wrong with a derivation. -/
def rightE (d : Dv) : Int := if 1024 < longN d then 3 else if d.outs.length = 0 ∨ allRiseB d = false then 10 else if d.ins.any (fun x => decide (x.2.length = 0)) then 10 else 0
/-- The cells of the inputs. -/
theorem InsAt.cells {w : World} {v : Value} {l : List (ByteArray × List ByteArray)} (h : InsAt w v l) : ∃ ns a c b off, ns.length = l.length ∧ SlAt w v l.length (inV l ns) ∧ v = .slice a l.length c ∧ l.length ≤ c ∧ c ≤ 9223372036854775807 ∧ (0 < l.length → a = some ⟨b, off, none⟩) ∧
    ∀ wx, Below w.heap.size w wx → ∀ i (hi : i < l.length), ∃ n, wx.cell? ⟨b, off + i * 2, none⟩ = some (.string l[i].1) ∧ wx.cell? ⟨b, off + i * 2 + 1, none⟩ = some n ∧ SlAt wx n l[i].2.length (strV l[i].2) := by
  obtain ⟨ns, hns, hs, hn⟩ := h
  obtain ⟨a, c, b, off, h1, h2, h3, h4, h5⟩ := hs.ex
  refine ⟨ns, a, c, b, off, hns, hs, h1, h2, h3, fun hp => h4 (fun e => by have := inV_len l ns hns; rw [e] at this; simp at this; omega), fun wx hb i hi => ?_⟩
  have h6 := inV_at l ns hns i hi
  have kk : ∀ j x, (inV l ns)[j]? = some x → wx.cell? ⟨b, off + j, none⟩ = some x := fun j x hx => by
    have hc := h5 j x hx
    exact (World.cell?_of_block (w := w) (hb.block b (World.block_lt_of_cell? w _ hc))).trans hc
  refine ⟨ns[i]'(by omega), ?_, ?_, (hn i hi (by omega)).keep hb⟩
  · rw [Nat.mul_comm]; exact kk _ _ h6.1
  · rw [Nat.mul_comm, Nat.add_assoc]; exact kk _ _ h6.2

theorem ifmax (x y : Nat) : (if (y : Int) > (x : Int) then (y : Int) else (x : Int)) = ((max x y : Nat) : Int) := by
  split <;> omega
theorem run_max5 (ts : Array TypeId) (t : TypeId) (a b c d e : Nat) (w : World) : (Builtin.max_ ts t #[.int .i64 a, .int .i64 b, .int .i64 c, .int .i64 d, .int .i64 e]).run Tryd.prog w = .ok (.int .i64 ((max (max (max (max a b) c) d) e : Nat) : Int)) w := by
  simp only [Builtin.max_, Builtin.max2, List.foldlM_cons, List.foldlM_nil, ifmax, pure_bind]
  rfl
theorem run_max2N (ts : Array TypeId) (t : TypeId) (a b : Nat) (w : World) : (Builtin.max_ ts t #[.int .i64 a, .int .i64 b]).run Tryd.prog w = .ok (.int .i64 ((max a b : Nat) : Int)) w := by
  simp only [Builtin.max_, Builtin.max2, List.foldlM_cons, List.foldlM_nil, ifmax, pure_bind]
  rfl
set_option maxRecDepth 20000 in
set_option maxHeartbeats 2000000 in
theorem longest_ok (d : Dv) (cs : Array Value) (w : World) (h : DrvAt w d cs) : Calls Tryd.prog 21 #[.agg cs] w fun e w' => e = .returned (.int .i64 (longN d : Nat)) ∧ Below w.heap.size w w' := by
  obtain ⟨vo, vi, vs, va, ve, rfl, ho, hi, hs, ha, he⟩ := h.ex
  obtain ⟨oa, oc, rfl, o1, o2⟩ := ho.shape
  obtain ⟨sa, sc, rfl, s1, s2⟩ := hs.shape
  obtain ⟨aa, ac, rfl, a1, a2⟩ := ha.shape
  obtain ⟨ea, ec, rfl, e1, e2⟩ := he.shape
  obtain ⟨ns, ia, ic, b, off, _, _, rfl, i1, i2, i3, hin⟩ := hi.cells
  have HIN : Hid _ := hin
  have mx := run_max5 #[3, 3, 3, 3, 3] 3 d.outs.length d.ins.length d.srcs.length d.args.length d.env.length
  obtain ⟨m0, hm0⟩ : ∃ m0, m0 = (max (max (max (max d.outs.length d.ins.length) d.srcs.length) d.args.length) d.env.length) := ⟨_, rfl⟩
  have HN : Hid (longN d = longI m0 d.ins) := by show _ = _; rw [hm0]; rfl
  rw [← hm0] at mx
  clear h ho hi hs ha he hin hm0
  have HB0 : Hid (Below w.heap.size w (w.alloc (.cells #[.slice oa d.outs.length oc, .slice ia d.ins.length ic, .slice sa d.srcs.length sc, .string d.sys, .string d.bld, .slice aa d.args.length ac, .slice ea d.env.length ec] 27))) := below_new (Below.refl _ _) _
  by_cases hl : d.ins = []
  · have hl0 : d.ins.length = 0 := by rw [hl]; rfl
    have HN0 : Hid (longN d = m0) := by show _ = _; rw [HN.out, hl]; rfl
    have hl1 : ¬ ((0 : Int) < (d.ins.length : Int)) := by omega
    clear hl0 hl
    go_enter Tryd.func21, Tryd.ntmps21
    go_wp2
    refine wp_loop_rounds 1 ?_
    rw [rounds_succ]
    go_wp2
    go_ret
    exact ⟨by rw [HN0.out]; rfl, HB0.out⟩
  have hpos : 0 < d.ins.length := List.length_pos_iff.2 hl
  obtain rfl := i3 hpos
  go_enter Tryd.func21, Tryd.ntmps21
  go_wp2
  go_loopw [3, 25] (fun mv iv wx => ∃ (i : Nat), iv = .int .i64 i ∧ i ≤ d.ins.length ∧ mv = .int .i64 (longI m0 (d.ins.take i) : Nat) ∧ Hid (Below w.heap.size w wx)) (fun _ iv _ => d.ins.length - (intOf iv).toNat)
  case atStart => exact ⟨0, rfl, by omega, rfl, HB0⟩
  case round =>
    obtain ⟨i, rfl, hi1, rfl, HB⟩ := hrel
    by_cases hlt : i < d.ins.length
    · have hlt' : (i : Int) < (d.ins.length : Int) := by omega
      obtain ⟨n, c0, c1, hn⟩ := HIN.out wr HB.out i hlt
      obtain ⟨na, nc, rfl, n1, n2⟩ := hn.shape
      have HS : Hid (longI m0 (d.ins.take (i + 1)) = max (longI m0 (d.ins.take i)) d.ins[i].2.length) := longI_take m0 d.ins i hlt
      have mx2 := run_max2N #[3, 3] 3 (longI m0 (d.ins.take i)) d.ins[i].2.length
      have HB2 : Hid (Below w.heap.size w (wr.alloc (.cells #[.string d.ins[i].1, .slice na d.ins[i].2.length nc] 52))) := below_new HB.out _
      clear hn
      go_wp2
      go_roundw
      case rel => exact ⟨i + 1, by go_num, by omega, by rw [HS.out], HB2⟩
      case measure => simp [intOf]; omega
    · have hlt' : ¬ (i : Int) < (d.ins.length : Int) := by omega
      obtain rfl : i = d.ins.length := by omega
      rw [List.take_length]
      go_wp2
      go_ret
      exact ⟨by rw [HN.out]; rfl, HB.out⟩
end Go.Proofs.YtmpgfepkdhjibaaDoor
