/- My own work: what is appended lies in rows of one's own. -/
import Derived.Test.YtmpgfepkdhjibaaDoorDv
import Derived.Laws.OwnMore
import Derived.Laws.ResultCell
namespace Go.Proofs.YtmpgfepkdhjibaaDoor
open Go.RowKit

theorem own_empty (w : World) (e : TypeId) (s : Nat) (base : Nat) (hb : base ≤ w.heap.size) : (w.alloc (.cells #[] e)).ownsRow base e s (.slice (some ⟨w.heap.size, 0, none⟩) 0 0) 0 [] := by
  have h := World.ownsRow_lit (base := base) (e := e) (size := s) w #[] 0 (by simpa using hb) (by decide) (by simp)
  simpa using h
theorem ownsRow_grown {w w' : World} {B B' n s n' s' : Nat} {e e' : TypeId} {v v' : Value} {xs xs' : List Value} (h : w.ownsRow B e s v n xs) (h' : w.ownsRow B' e' s' v' n' xs') (hg : w.grownBy w' v'.ownBlock) (hne : e ≠ e') : w'.ownsRow B e s v n xs :=
  ownsRow_keep h fun k hk hlt => hg.block k hlt (fun e1 => by
    obtain ⟨_, _, c1, r1⟩ := ownsRow_lt h k hk
    obtain ⟨_, _, c2, r2⟩ := ownsRow_lt h' k e1.symm
    exact row_apart r1 r2 hne rfl)
theorem row_grown {w w' : World} {B s n : Nat} {e : TypeId} {v : Value} {xs : List Value} (hown : w.ownsRow B e s v n xs) (hg : w.grownBy w' v.ownBlock) {k : Nat} {C : Array Value} {t : TypeId} (hr : Row w k C t) (ht : t ≠ e) : Row w' k C t :=
  (hg.block k hr.lt (fun e1 => by
    obtain ⟨_, _, c2, r2⟩ := ownsRow_lt hown k e1.symm
    exact row_apart hr r2 ht rfl)).trans hr
theorem own_below {w w' : World} {n s base : Nat} {e : TypeId} {v : Value} {xs : List Value} (h : w.ownsRow base e s v n xs) (hb : Below w.heap.size w w') : w'.ownsRow base e s v n xs :=
  ownsRow_keep h (fun k hk _ => hb.block k (ownsRow_lt h k hk).1)
/-- A row of one's own is so many elements. -/
theorem SlAt.of {w : World} {base n s : Nat} {e : TypeId} {v : Value} {xs : List Value} (h : w.ownsRow base e s v n xs) : SlAt w v n xs := by
  have h' := h
  obtain ⟨hl, ⟨rfl, rfl⟩ | ⟨g, cap, cur, rfl, hb, hr, hn, hc, hs, ht⟩⟩ := h
  · have hx : xs = [] := List.eq_nil_of_length_eq_zero (by simpa using hl)
    subst hx
    exact ⟨⟨none, 0, 0, 0, rfl, Nat.le_refl _, by omega, fun h => absurd rfl h, fun i x hx => by simp at hx⟩, fun n' c' e => by simp at e; omega⟩
  · refine ⟨⟨_, cap, g, 0, rfl, hn, by unfold maxLen at hc; omega, fun _ => rfl, fun i x hx => ?_⟩, fun n' c' e => by simp at e⟩
    have := h'.cells (g := g) rfl i x hx
    have ha : (⟨g, 0, none⟩ : Addr).add i = ⟨g, 0 + i, none⟩ := by unfold Addr.add; split <;> simp_all
    rwa [ha] at this
section
variable {w : World}
/-- 'append(v, xs...)', v a row of one's own, xs a slice in memory, nil or not. -/
theorem run_append_sl (t ty e : TypeId) (z : Value) (size bytes : Nat) (ht : Tryd.prog.underlying t = some (.slice e)) (hi : (Tryd.prog.info? e).map (fun i => (i.zero, i.size, i.bytes)) = some (some z, size, bytes)) (hzs : z.cells.size = size) (hsz : 0 < size)
    (base : Nat) (v : Value) (n : Nat) (xs : List Value) (hown : w.ownsRow base e size v n xs) (x : Value) (m : Nat) (C : List Value) (hx : SlAt w x m C) (hC : C.length = m * size) (h1 : ∀ u ∈ C, u.oneCell' = true)
    (hb : (n + m) * bytes ≤ 140737488355328) (hby : 1 ≤ bytes) (hbase : base ≤ w.heap.size) :
    ∃ v' w', (Builtin.append_ #[t, t] ty #[v, x]).run Tryd.prog w = .ok v' w' ∧ w'.ownsRow base e size v' (n + m) (xs ++ C) ∧ w.grownBy w' v.ownBlock := by
  obtain ⟨i0, hi0, hz0, hz1, hz2⟩ := info_parts hi
  obtain ⟨a, c, b, off, rfl, h2, h3, h4, h5⟩ := hx.ex
  cases a with
  | none =>
    have hc := hx.nil _ _ rfl
    obtain rfl : c = 0 := hc
    obtain rfl : m = 0 := by omega
    have hCn : C = [] := List.eq_nil_of_length_eq_zero (by simpa using hC)
    subst hCn
    refine ⟨v, w, run_append_owned_none (P := Tryd.prog) w base t ty e i0 size ht hi0 v n xs hown, by simpa using hown, ⟨rfl, rfl, rfl, Nat.le_refl _, fun _ _ _ => rfl⟩⟩
  | some ad =>
    have hnews : ∀ j u, C[j]? = some u → w.cell? (ad.add j) = some u := fun j u hj => by
      have := h4 (fun e => by subst e; simp at hj)
      simp only [Option.some.injEq] at this
      subst this
      have ha : (⟨b, off, none⟩ : Addr).add j = ⟨b, off + j, none⟩ := by unfold Addr.add; split <;> simp_all
      rw [ha]
      exact h5 j u hj
    have hnm : n + m ≤ maxLen := by
      unfold maxLen
      have : (n + m) * 1 ≤ (n + m) * bytes := Nat.mul_le_mul_left _ hby
      omega
    obtain ⟨v', w', hr, r1, r2, _⟩ := run_append_own (P := Tryd.prog) w base t ty e i0 z size bytes ht hi0 hz0 hz1 hz2 hzs hsz v n xs hown ad m c C hC hnews h1 hnm hb hbase
    exact ⟨v', w', hr, r1, r2⟩
end
theorem info_out : (Tryd.prog.info? 46).map (fun i => (i.zero, i.size, i.bytes)) = some (some (.agg #[.string ⟨#[]⟩, .string ⟨#[]⟩, .string ⟨#[]⟩]), 3, 48) := by kernel_rfl
theorem info_in : (Tryd.prog.info? 52).map (fun i => (i.zero, i.size, i.bytes)) = some (some (.agg #[.string ⟨#[]⟩, .slice none 0 0]), 2, 40) := by kernel_rfl
theorem info_pair : (Tryd.prog.info? 60).map (fun i => (i.zero, i.size, i.bytes)) = some (some (.agg #[.string ⟨#[]⟩, .string ⟨#[]⟩]), 2, 32) := by kernel_rfl
theorem info_str : (Tryd.prog.info? 9).map (fun i => (i.zero, i.size, i.bytes)) = some (some (.string ⟨#[]⟩), 1, 16) := by kernel_rfl
theorem info_drv : (Tryd.prog.info? 27).map (·.size) = some 7 := by kernel_rfl
theorem strV_one (l : List ByteArray) : ∀ u ∈ strV l, u.oneCell' = true := fun u hu => by
  obtain ⟨_, _, rfl⟩ := List.mem_map.1 hu
  rfl
theorem outV_one (l : List (ByteArray × ByteArray × ByteArray)) : ∀ u ∈ outV l, u.oneCell' = true := fun u hu => by
  obtain ⟨_, _, hu⟩ := List.mem_flatMap.1 hu
  simp only [List.mem_cons, List.not_mem_nil, or_false] at hu
  rcases hu with rfl | rfl | rfl <;> rfl
theorem pairV_one (l : List (ByteArray × ByteArray)) : ∀ u ∈ pairV l, u.oneCell' = true := fun u hu => by
  obtain ⟨_, _, hu⟩ := List.mem_flatMap.1 hu
  simp only [List.mem_cons, List.not_mem_nil, or_false] at hu
  rcases hu with rfl | rfl <;> rfl
/-- So many elements are few enough to be copied. -/
structure Few (d : Dv) : Prop where
  outs : d.outs.length * 48 ≤ 140737488355328
  ins : d.ins.length * 40 ≤ 140737488355328
  srcs : d.srcs.length * 16 ≤ 140737488355328
  args : d.args.length * 16 ≤ 140737488355328
  env : d.env.length * 32 ≤ 140737488355328
  each : ∀ x ∈ d.ins, x.2.length * 16 ≤ 140737488355328
end Go.Proofs.YtmpgfepkdhjibaaDoor
