/- My own work: signs as a set that a map holds; where signs occur; the walk of strike. -/
import Derived.Test.YtpkbfljoakodoaaDoorPSplit2
import Derived.Test.YtpkbfljoakodoaaDoorNd
import Derived.StringKeys
import Derived.Maps.OwnSet
import Derived.Maps.Views
namespace Go.Proofs.YtpkbfljoakodoaaDoor
open Go.RowKit Go.ChangeMaps
open S2 (bl bl_len bl_ex ex_size bl_inj)

theorem str_keyed : Maps.Keyed Tryd.prog 9 := Maps.string_keyed Tryd.underlying9
/-- Block g is a map that holds just the texts that S tells. -/
structure SetAt (w : World) (g N : Nat) (S : List UInt8 → Bool) (D : DataW Unit) : Prop where
  own : w.ownsMap Tryd.prog 9 unitElem g N D
  has : ∀ k, Maps.has D (.string k) = S k
theorem SetAt.made (w : World) : SetAt (w.alloc (.map #[] 0)) w.heap.size 0 (fun _ => false) (.map []) := ⟨World.ownsMap_made w _ _ _, fun _ => rfl⟩
theorem SetAt.keep {w w' : World} {g N : Nat} {S : List UInt8 → Bool} {D : DataW Unit} (h : SetAt w g N S D) (hb : Below w.heap.size w w') : SetAt w' g N S D := by
  obtain ⟨es, ck, h1, h2⟩ := h.own
  exact ⟨⟨es, ck, (hb.block g h.own.lt).trans h1, h2⟩, h.has⟩
theorem SetAt.cong {w : World} {g N : Nat} {S S' : List UInt8 → Bool} {D : DataW Unit} (h : SetAt w g N S D) (e : ∀ k, S k = S' k) : SetAt w g N S' D := ⟨h.own, fun k => (h.has k).trans (e k)⟩
theorem SetAt.put {w : World} {g N M : Nat} {S : List UInt8 → Bool} {D : DataW Unit} (h : SetAt w g N S D) (k0 : List UInt8) {w' : World} (ho : w'.ownsMap Tryd.prog 9 unitElem g M (D.put (.string k0) (.agg []))) : SetAt w' g M (fun k => S k || k == k0) (D.put (.string k0) (.agg [])) := by
  refine ⟨ho, fun k => ?_⟩
  by_cases e : k = k0
  · subst e
    rw [Maps.has_put_same (k := .string k) h.own.isMap trivial]
    simp
  · rw [Maps.has_put_other (fun h => e (by injection h)), h.has]
    simp [e]
theorem SetAt.del {w : World} {g N M : Nat} {S : List UInt8 → Bool} {D : DataW Unit} (h : SetAt w g N S D) (k0 : List UInt8) {w' : World} (ho : w'.ownsMap Tryd.prog 9 unitElem g M (D.del (.string k0))) : SetAt w' g M (fun k => S k && !(k == k0)) (D.del (.string k0)) := by
  refine ⟨ho, fun k => ?_⟩
  by_cases e : k = k0
  · subst e
    rw [Maps.has_del_same]
    simp
  · rw [Maps.has_del_other (fun h => e (by injection h)), h.has]
    simp [e]
theorem SetAt.none {w : World} {g N : Nat} {S : List UInt8 → Bool} {D : DataW Unit} (h : SetAt w g N S D) (h0 : Maps.size D = 0) (k : List UInt8) : S k = false := by
  rw [← h.has]
  obtain ⟨es, rfl⟩ := h.own.isMap
  have : es = [] := List.eq_nil_of_length_eq_zero h0
  rw [this]
  rfl

/-- The thirty-two bytes at a place. -/
def win (l : List UInt8) (i : Nat) : List UInt8 := (l.drop i).take 32
/-- Do signs occur in a text? -/
def occ (k l : List UInt8) : Bool := (List.range (l.length + 1 - 32)).any fun i => k == win l i
def occTo (k l : List UInt8) (n : Nat) : Bool := (List.range n).any fun i => k == win l i
theorem occTo_succ (k l : List UInt8) (n : Nat) : occTo k l (n + 1) = (occTo k l n || k == win l n) := by
  unfold occTo
  rw [List.range_succ, List.any_append]
  simp
theorem win_ex (s : ByteArray) (i : Nat) : bl (s.extract i (i + 32)) = win (bl s) i := by
  rw [bl_ex, win, List.drop_take, Nat.add_sub_cancel_left]

set_option maxRecDepth 20000 in
set_option maxHeartbeats 2000000 in
/-- strike: the signs that occur in a text are struck out of the set. -/
theorem strike_ok (g N : Nat) (S : List UInt8 → Bool) (D : DataW Unit) (t : ByteArray) (w : World) (h : SetAt w g N S D) (ht : t.size ≤ big) :
    Calls Tryd.prog 23 #[.map (some g), .string t] w fun e w' => (∃ v, e = .returned v) ∧ (∃ D', SetAt w' g N (fun k => S k && !occ k (bl t)) D') ∧ w.mapTurned w' g := by
  have hlen := bl_len t
  unfold big at ht
  have H0 : Hid (SetAt w g N S D) := h
  have HL : Hid _ := hlen
  clear h hlen
  go_enter Tryd.func23, Tryd.ntmps23
  go_wp2
  go_loopw [4] (fun i wr => ∃ (n : Nat) (D' : DataW Unit), i = .int .i64 n ∧ n ≤ t.size + 1 - 32 ∧ SetAt wr g N (fun k => S k && !occTo k (bl t) n) D' ∧ w.mapTurned wr g)
    (fun i _ => t.size - (intOf i).toNat)
  case atStart => exact ⟨0, D, rfl, Nat.zero_le _, H0.out.cong (fun k => by simp [occTo]), H0.out.own.turned_refl⟩
  case round =>
    obtain ⟨n, D', rfl, hn, hS, hT⟩ := hrel
    have hle := hS.own.len (t := 55) Tryd.underlying55 3
    obtain ⟨z, hz⟩ : ∃ z, z = Maps.size D' := ⟨_, rfl⟩
    have hzn := hS.own.size_le
    rw [← hz] at hle hzn
    have HZ : Hid _ := hz
    clear hz
    by_cases hlt : n + 32 ≤ t.size
    · by_cases hz0 : z = 0
      · subst hz0
        go_wp2
        go_end0
        refine ⟨⟨_, rfl⟩, ⟨D', hS.cong fun k => ?_⟩, hT⟩
        have h0 := hS.none HZ.out.symm k
        rw [h0]
        cases hk : S k with
        | false => rfl
        | true =>
          rw [hk] at h0
          have : occ k (bl t) = true := by
            have h1 : occTo k (bl t) n = true := by simpa using h0
            unfold occTo at h1
            obtain ⟨i, hi, he⟩ := List.any_eq_true.1 h1
            refine List.any_eq_true.2 ⟨i, List.mem_range.2 ?_, he⟩
            have := List.mem_range.1 hi
            rw [HL.out]
            omega
          rw [this]
          rfl
      · obtain ⟨q, hq⟩ : ∃ q, q = t.extract n (n + 32) := ⟨_, rfl⟩
        have hq' := hq.symm
        have hqs : q.size ≤ maxLen := by rw [hq, ex_size _ _ _ hlt]; unfold maxLen; omega
        have hkey := Go.WideMaps.keyOf_string_mk Tryd.underlying9 hqs
        have HQ : Hid (bl q = win (bl t) n) := by show _ = _; rw [hq, win_ex]
        clear hq hqs
        obtain ⟨w1, hdel, hown1, hturn1⟩ := hS.own.drop str_keyed Tryd.underlying55 hkey 0
        go_wp2
        go_roundw
        case rel => exact ⟨n + 1, _, by go_num, by omega, (hS.del _ hown1).cong (fun k => by have e := HQ.out; change q.data.toList = _ at e; rw [occTo_succ, e]; cases S k <;> simp), hT.trans hturn1⟩
        case measure => simp [intOf]; omega
    · go_wp2
      go_end0
      refine ⟨⟨_, rfl⟩, ⟨D', hS.cong fun k => ?_⟩, hT⟩
      have e : n = t.size + 1 - 32 ∨ t.size + 1 - 32 ≤ n := by omega
      have e2 : n = t.size + 1 - 32 := by omega
      subst e2
      unfold occTo occ
      rw [HL.out]
end Go.Proofs.YtpkbfljoakodoaaDoor
