/- My own work: signs as a set that a map holds; where signs occur; the walk of strike. My own work: the signs of paths, as a set; the walk of signsOf. My own work: texts on a row of one's own, sorted and each told once; what comes of it. My own work: the walk of found. -/
import Derived.Test.YtpkbfljoakodoaaDoorPSplit2
import Derived.Test.YtpkbfljoakodoaaDoorNd
import Derived.StringKeys
import Derived.Maps.OwnSet
import Derived.Maps.Views
import Derived.Test.YtpkbfljoakodoaaDoorShS
import Derived.Sort.OwnSorted
import Derived.Sort.Grow
import Derived.Lib.OwnBridge
import Derived.Deep.DeepAppendWide
namespace Go.Proofs.YtpkbfljoakodoaaDoor
open Go.RowKit Go.ChangeMaps
open S2 (bl bl_len bl_ex ex_size bl_inj)

theorem str_keyed : Maps.Keyed Tryd.prog 9 := Maps.string_keyed Tryd.underlying9
/-- Block g is a map that holds just the texts that S tells. -/
structure SetAt (w : World) (g N : Nat) (S : List UInt8 → Bool) (D : DataW Unit) : Prop where
  own : w.ownsMap Tryd.prog 9 unitElem g N D
  has : ∀ k, Maps.has D (.string k) = S k
theorem SetAt.made (w : World) : SetAt (w.alloc (.map #[] 0)) w.heap.size 0 (fun _ => false) (.map []) := ⟨World.ownsMap_made w _ _ _, fun _ => rfl⟩
theorem SetAt.keep {w w' : World} {g N : Nat} {S : List UInt8 → Bool} {D : DataW Unit} (h : SetAt w g N S D) (hb : Below w.heap.size w w') : SetAt w' g N S D := by
  obtain ⟨es, ck, h1, h2⟩ := h.own
  exact ⟨⟨es, ck, (hb.block g h.own.lt).trans h1, h2⟩, h.has⟩
theorem SetAt.cong {w : World} {g N : Nat} {S S' : List UInt8 → Bool} {D : DataW Unit} (h : SetAt w g N S D) (e : ∀ k, S k = S' k) : SetAt w g N S' D := ⟨h.own, fun k => (h.has k).trans (e k)⟩
theorem SetAt.put {w : World} {g N M : Nat} {S : List UInt8 → Bool} {D : DataW Unit} (h : SetAt w g N S D) (k0 : List UInt8) {w' : World} (ho : w'.ownsMap Tryd.prog 9 unitElem g M (D.put (.string k0) (.agg []))) : SetAt w' g M (fun k => S k || k == k0) (D.put (.string k0) (.agg [])) := by
  refine ⟨ho, fun k => ?_⟩
  by_cases e : k = k0
  · subst e
    rw [Maps.has_put_same (k := .string k) h.own.isMap trivial]
    simp
  · rw [Maps.has_put_other (fun h => e (by injection h)), h.has]
    simp [e]
theorem SetAt.del {w : World} {g N M : Nat} {S : List UInt8 → Bool} {D : DataW Unit} (h : SetAt w g N S D) (k0 : List UInt8) {w' : World} (ho : w'.ownsMap Tryd.prog 9 unitElem g M (D.del (.string k0))) : SetAt w' g M (fun k => S k && !(k == k0)) (D.del (.string k0)) := by
  refine ⟨ho, fun k => ?_⟩
  by_cases e : k = k0
  · subst e
    rw [Maps.has_del_same]
    simp
  · rw [Maps.has_del_other (fun h => e (by injection h)), h.has]
    simp [e]
theorem SetAt.none {w : World} {g N : Nat} {S : List UInt8 → Bool} {D : DataW Unit} (h : SetAt w g N S D) (h0 : Maps.size D = 0) (k : List UInt8) : S k = false := by
  rw [← h.has]
  obtain ⟨es, rfl⟩ := h.own.isMap
  have : es = [] := List.eq_nil_of_length_eq_zero h0
  rw [this]
  rfl

/-- The thirty-two bytes at a place. -/
def win (l : List UInt8) (i : Nat) : List UInt8 := (l.drop i).take 32
/-- Do signs occur in a text? -/
def occ (k l : List UInt8) : Bool := (List.range (l.length + 1 - 32)).any fun i => k == win l i
def occTo (k l : List UInt8) (n : Nat) : Bool := (List.range n).any fun i => k == win l i
theorem occTo_succ (k l : List UInt8) (n : Nat) : occTo k l (n + 1) = (occTo k l n || k == win l n) := by
  unfold occTo
  rw [List.range_succ, List.any_append]
  simp
theorem win_ex (s : ByteArray) (i : Nat) : bl (s.extract i (i + 32)) = win (bl s) i := by
  rw [bl_ex, win, List.drop_take, Nat.add_sub_cancel_left]

set_option maxRecDepth 20000 in
set_option maxHeartbeats 2000000 in
/-- strike: the signs that occur in a text are struck out of the set. -/
theorem strike_ok (g N : Nat) (S : List UInt8 → Bool) (D : DataW Unit) (t : ByteArray) (w : World) (h : SetAt w g N S D) (ht : t.size ≤ big) :
    Calls Tryd.prog 23 #[.map (some g), .string t] w fun e w' => (∃ v, e = .returned v) ∧ (∃ D', SetAt w' g N (fun k => S k && !occ k (bl t)) D') ∧ w.mapTurned w' g := by
  have hlen := bl_len t
  unfold big at ht
  have H0 : Hid (SetAt w g N S D) := h
  have HL : Hid _ := hlen
  clear h hlen
  go_enter Tryd.func23, Tryd.ntmps23
  go_wp2
  go_loopw [4] (fun i wr => ∃ (n : Nat) (D' : DataW Unit), i = .int .i64 n ∧ n ≤ t.size + 1 - 32 ∧ SetAt wr g N (fun k => S k && !occTo k (bl t) n) D' ∧ w.mapTurned wr g)
    (fun i _ => t.size - (intOf i).toNat)
  case atStart => exact ⟨0, D, rfl, Nat.zero_le _, H0.out.cong (fun k => by simp [occTo]), H0.out.own.turned_refl⟩
  case round =>
    obtain ⟨n, D', rfl, hn, hS, hT⟩ := hrel
    have hle := hS.own.len (t := 55) Tryd.underlying55 3
    obtain ⟨z, hz⟩ : ∃ z, z = Maps.size D' := ⟨_, rfl⟩
    have hzn := hS.own.size_le
    rw [← hz] at hle hzn
    have HZ : Hid _ := hz
    clear hz
    by_cases hlt : n + 32 ≤ t.size
    · by_cases hz0 : z = 0
      · subst hz0
        go_wp2
        go_end0
        refine ⟨⟨_, rfl⟩, ⟨D', hS.cong fun k => ?_⟩, hT⟩
        have h0 := hS.none HZ.out.symm k
        rw [h0]
        cases hk : S k with
        | false => rfl
        | true =>
          rw [hk] at h0
          have : occ k (bl t) = true := by
            have h1 : occTo k (bl t) n = true := by simpa using h0
            unfold occTo at h1
            obtain ⟨i, hi, he⟩ := List.any_eq_true.1 h1
            refine List.any_eq_true.2 ⟨i, List.mem_range.2 ?_, he⟩
            have := List.mem_range.1 hi
            rw [HL.out]
            omega
          rw [this]
          rfl
      · obtain ⟨q, hq⟩ : ∃ q, q = t.extract n (n + 32) := ⟨_, rfl⟩
        have hq' := hq.symm
        have hqs : q.size ≤ maxLen := by rw [hq, ex_size _ _ _ hlt]; unfold maxLen; omega
        have hkey := Go.WideMaps.keyOf_string_mk Tryd.underlying9 hqs
        have HQ : Hid (bl q = win (bl t) n) := by show _ = _; rw [hq, win_ex]
        clear hq hqs
        obtain ⟨w1, hdel, hown1, hturn1⟩ := hS.own.drop str_keyed Tryd.underlying55 hkey 0
        go_wp2
        go_roundw
        case rel => exact ⟨n + 1, _, by go_num, by omega, (hS.del _ hown1).cong (fun k => by have e := HQ.out; change q.data.toList = _ at e; rw [occTo_succ, e]; cases S k <;> simp), hT.trans hturn1⟩
        case measure => simp [intOf]; omega
    · go_wp2
      go_end0
      refine ⟨⟨_, rfl⟩, ⟨D', hS.cong fun k => ?_⟩, hT⟩
      have e : n = t.size + 1 - 32 ∨ t.size + 1 - 32 ≤ n := by omega
      have e2 : n = t.size + 1 - 32 := by omega
      subst e2
      unfold occTo occ
      rw [HL.out]
end Go.Proofs.YtpkbfljoakodoaaDoor
namespace Go.Proofs.YtpkbfljoakodoaaDoor
open Go.RowKit Go.ChangeMaps
open S2 (bl bl_len bl_ex ex_size bl_inj splitB splitV split_ok Tab NTab)

/-- A path's signs. -/
def sgn (p : ByteArray) : List UInt8 := win (bl p) 7
/-- The signs of those texts that are paths. -/
def signsS (ps : List ByteArray) (k : List UInt8) : Bool := ps.any fun p => splitB (bl p) && k == sgn p
theorem signsS_take (ps : List ByteArray) (n : Nat) (h : n < ps.length) (k : List UInt8) : signsS (ps.take (n + 1)) k = (signsS (ps.take n) k || (splitB (bl ps[n]) && k == sgn ps[n])) := by
  unfold signsS
  rw [List.take_succ_eq_append_getElem h, List.any_append]
  simp
theorem below_map {w0 w w' : World} {g : Nat} (h : Below w0.heap.size w0 w) (hg : w.grownBy w' (some g)) (hw : w0.heap.size ≤ g) : Below w0.heap.size w0 w' :=
  h.grown hg h.size (fun k e => by cases e; exact hw)
set_option maxRecDepth 20000 in
set_option maxHeartbeats 2000000 in
/-- signsOf: a new map with the signs of those texts that are paths. -/
theorem signsOf_ok (a : Option Addr) (ps : List ByteArray) (c : Nat) (w : World) (h : StrsAt w a ps c) (hT : Tab w) (hNT : NTab w) :
    Calls Tryd.prog 22 #[.slice a ps.length c] w fun e w' => e = .returned (.map (some w.heap.size)) ∧ (∃ D, SetAt w' w.heap.size ps.length (signsS ps) D) ∧ Below w.heap.size w w' := by
  have hmm := @run_makeMap Tryd.prog
  have hlen := h.len
  unfold big at hlen
  have H0 : Hid (StrsAt w a ps c) := h
  have HT : Hid (Tab w) := hT
  have HN : Hid (NTab w) := hNT
  obtain ⟨L, hL⟩ : ∃ L, L = ps.length := ⟨_, rfl⟩
  rw [← hL] at hlen ⊢
  have HL : Hid _ := hL
  clear h hT hNT hL
  go_enter Tryd.func22, Tryd.ntmps22
  go_wp2
  go_loopw [12] (fun i wr => ∃ (n : Nat) (D' : DataW Unit), i = .int .i64 n ∧ n ≤ L ∧ SetAt wr w.heap.size n (signsS (ps.take n)) D' ∧ Below w.heap.size w wr)
    (fun i _ => L - (intOf i).toNat)
  case atStart => exact ⟨0, _, rfl, Nat.zero_le _, (SetAt.made w).cong (fun k => rfl), (Below.refl _ _).alloc (Nat.le_refl _) _⟩
  case round =>
    obtain ⟨n, D', rfl, hn, hS, hB⟩ := hrel
    have HB : Hid _ := hB
    have HS : Hid _ := hS
    by_cases hlt : n < L
    · have hlt' : n < ps.length := by rw [← HL.out]; exact hlt
      obtain ⟨b, off, ha, hcs⟩ := (H0.out.keep HB.out).ex
      have hc := hcs n hlt'
      obtain ⟨p, hp⟩ : ∃ p, p = ps[n] := ⟨_, rfl⟩
      have hps : p.size ≤ 140737488355328 := by
        have := H0.out.each p (by rw [hp]; exact List.getElem_mem _)
        unfold big at this
        omega
      rw [← hp] at hc
      have ha' := ha (by omega)
      have HP : Hid _ := hp
      subst ha'
      have hSp := split_ok p wr hps (HT.out.below HB.out HT.out.pos) (NTab.keep HN.out HB.out)
      clear hcs hp ha hB hS
      cases hs : splitB (bl p) with
      | false =>
        have e1 : splitV p = .tuple #[.string ⟨#[]⟩, .string ⟨#[]⟩, .int .i64 17] := by unfold splitV; rw [hs]; rfl
        rw [e1] at hSp
        clear e1
        go_wp2_with (go_at_call 32; refine hSp.mono ?_; rintro e w1 ⟨rfl, hb1⟩; have HB1 : Hid _ := hb1; clear hb1 hSp)
        go_roundw
        case rel =>
          have hB := HB.out
          refine ⟨n + 1, D', by go_num, by omega, ?_, hB.trans (HB1.out.mono hB.size)⟩
          have hS1 := HS.out.keep HB1.out
          refine ⟨hS1.own.mono (Nat.le_succ _), fun k => ?_⟩
          rw [hS1.has, signsS_take ps n hlt', ← HP.out, hs]
          simp
        case measure => simp [intOf]; omega
      | true =>
        obtain ⟨q, hq⟩ : ∃ q, q = p.extract 7 39 := ⟨_, rfl⟩
        obtain ⟨q2, hq2⟩ : ∃ q, q = p.extract 40 p.size := ⟨_, rfl⟩
        have e1 : splitV p = .tuple #[.string q, .string q2, .int .i64 0] := by unfold splitV; rw [hs, hq, hq2]; rfl
        rw [e1] at hSp
        have HQ : Hid (bl q = sgn p) := by show _ = _; rw [hq]; exact win_ex p 7
        have hqs : q.size ≤ maxLen := by
          have : q.size ≤ p.size := by rw [hq]; simp; omega
          unfold maxLen
          omega
        have hkey := Go.WideMaps.keyOf_string_mk Tryd.underlying9 hqs
        clear e1 hq hq2 hqs
        go_wp2_with (go_at_call 32; refine hSp.mono ?_; rintro e w1 ⟨rfl, hb1⟩; have HB1 : Hid _ := hb1; clear hSp; obtain ⟨w2, hup, hown2, hgr2⟩ := (HS.out.keep hb1).own.update str_keyed Tryd.underlying55 (by unfold maxLen; omega) hkey unitElem_mk; have H2 : Hid (w2.ownsMap _ _ _ _ _ _ ∧ w1.grownBy w2 _) := ⟨hown2, hgr2⟩; clear hown2 hgr2 hb1)
        go_roundw
        case rel =>
          have hB := HB.out
          have hB1 := hB.trans (HB1.out.mono hB.size)
          refine ⟨n + 1, _, by go_num, by omega, ((HS.out.keep HB1.out).put (bl q) H2.out.1).cong (fun k => ?_), below_map hB1 H2.out.2 (Nat.le_refl _)⟩
          rw [signsS_take ps n hlt', ← HP.out, hs, HQ.out]
          simp
        case measure => simp [intOf]; omega
    · obtain rfl : n = L := by omega
      go_wp2
      go_ret
      refine ⟨rfl, ⟨D', ?_⟩, HB.out⟩
      have hS' := HS.out
      have e := HL.out
      rw [List.take_of_length_le (by omega)] at hS'
      exact hS'
end Go.Proofs.YtpkbfljoakodoaaDoor
namespace Go.Proofs.YtpkbfljoakodoaaDoor
open Go.RowKit Go.Sort Go.Shelf
open S2 (bl bl_len)

abbrev leS (x y : List UInt8) : Bool := decide (x ≤ y)
/-- Sorted, each told once. -/
def uniq (ss : List (List UInt8)) : List (List UInt8) := Lib.compact (ss.mergeSort leS)
theorem befores_lt : ∀ a b : List UInt8, bytesBefore a b = true → a < b
  | [], [], h => by cases h
  | [], _ :: _, _ => List.nil_lt_cons _ _
  | _ :: _, [], h => by cases h
  | a :: x, b :: y, h => by
    unfold bytesBefore at h
    simp only [Bool.or_eq_true, Bool.and_eq_true, decide_eq_true_eq, beq_iff_eq] at h
    refine List.cons_lt_cons_iff.2 ?_
    rcases h with h | ⟨h1, h2⟩
    · exact .inl h
    · exact .inr ⟨h1, befores_lt x y h2⟩
theorem le_before {a b : List UInt8} (h : a ≤ b) (hne : a ≠ b) : bytesBefore a b = true := by
  rcases WideAt.bytes_total _ _ hne with h1 | h1
  · exact h1
  · exact absurd (befores_lt _ _ h1) h
theorem sorted_le (ss : List (List UInt8)) : (ss.mergeSort leS).Pairwise (fun a b => a ≤ b) :=
  (List.pairwise_mergeSort (le := leS) (fun a b c h1 h2 => decide_eq_true (List.le_trans (of_decide_eq_true h1) (of_decide_eq_true h2)))
    (fun a b => by
      rcases List.le_total a b with h | h
      · rw [show leS a b = true from decide_eq_true h]; rfl
      · rw [show leS b a = true from decide_eq_true h]; simp) ss).imp fun h => of_decide_eq_true h
theorem keeps_iff (d : Array (List UInt8)) (j : Nat) : Lib.keeps d j = true ↔ (j = 0 ∨ d[j]! ≠ d[j - 1]!) := by
  unfold Lib.keeps
  simp
theorem compact_rises {l : List (List UInt8)} (h : l.Pairwise (fun a b => a ≤ b)) : (Lib.compact l).Pairwise (fun a b => bytesBefore a b = true) := by
  unfold Lib.compact Lib.compactUpTo
  have hle : ∀ i j, i ≤ j → j < l.length → l.toArray[i]! ≤ l.toArray[j]! := fun i j hij hj => by
    rw [getElem!_pos _ i (by simp; omega), getElem!_pos _ j (by simpa using hj)]
    rcases Nat.eq_or_lt_of_le hij with e | e
    · subst e; exact List.le_refl _
    · simpa using List.pairwise_iff_getElem.1 h i j (by omega) hj e
  refine List.pairwise_map.2 (List.pairwise_filter.2 ?_)
  refine (List.pairwise_iff_getElem.2 fun i j hi hj hij => ?_)
  simp only [List.getElem_range]
  intro _ hk
  have hjl : j < l.length := by simpa using hj
  rcases (keeps_iff _ _).1 hk with e | e
  · omega
  · have h1 := hle i (j - 1) (by omega) (by omega)
    have h2 := hle (j - 1) j (by omega) hjl
    have h3 := le_before h2 (fun x => e x.symm)
    by_cases e4 : l.toArray[i]! = l.toArray[j - 1]!
    · rw [e4]; exact h3
    · exact WideShapes.bytes_trans _ _ _ (le_before h1 e4) h3
theorem mem_compact_iff {l : List (List UInt8)} (x : List UInt8) : x ∈ Lib.compact l ↔ x ∈ l := by
  unfold Lib.compact Lib.compactUpTo
  constructor
  · intro h
    obtain ⟨i, hi, rfl⟩ := List.mem_map.1 h
    have hi' : i < l.length := List.mem_range.1 (List.mem_filter.1 hi).1
    simp [getElem!_pos, hi']
  · intro h
    obtain ⟨i, hi, rfl⟩ := List.getElem_of_mem h
    induction i with
    | zero => exact List.mem_map.2 ⟨0, List.mem_filter.2 ⟨List.mem_range.2 hi, (keeps_iff _ _).2 (.inl rfl)⟩, by simp [getElem!_pos, hi]⟩
    | succ i ih =>
      by_cases e : l[i + 1] = l[i]'(by omega)
      · rw [e]
        exact ih (by omega) (List.getElem_mem _)
      · refine List.mem_map.2 ⟨i + 1, List.mem_filter.2 ⟨List.mem_range.2 hi, (keeps_iff _ _).2 (.inr ?_)⟩, by simp [getElem!_pos, hi]⟩
        rw [getElem!_pos _ (i + 1) (by simpa using hi), getElem!_pos _ (i + 1 - 1) (by simp; omega)]
        simpa using e
theorem uniq_rises (ss : List (List UInt8)) : (uniq ss).Pairwise (fun a b => bytesBefore a b = true) := compact_rises (sorted_le ss)
theorem mem_uniq (ss : List (List UInt8)) (x : List UInt8) : x ∈ uniq ss ↔ x ∈ ss := by
  unfold uniq
  rw [mem_compact_iff, List.mem_mergeSort]
/-- slices.Sort of a row of one's own. -/
theorem sort_own {B n : Nat} {v : Value} {ss : List (List UInt8)} {w : World} (h : w.ownsRow B 9 1 v n (ss.map encStr)) (hn : n * 16 ≤ 140737488355328) :
    Calls Tryd.prog 40 #[v] w fun e w' => (∃ r, e = .returned r) ∧ w'.ownsRow B 9 1 v n ((ss.mergeSort leS).map encStr) ∧ w.grownBy w' v.ownBlock := by
  by_cases hv : v = .slice none 0 0
  · subst hv
    have h0 : ss = [] := by
      rcases h.2 with ⟨_, h2⟩ | ⟨g, cap, cur, e, _⟩
      · have h3 := h.1; simp at h3; exact List.eq_nil_of_length_eq_zero (by omega)
      · cases e
    subst h0
    refine (Any.slices_Sort_string_none Tryd.lays190 none 0 w).mono ?_
    rintro e w' ⟨rfl, rfl⟩
    exact ⟨⟨_, rfl⟩, by simpa using h, ⟨rfl, rfl, rfl, Nat.le_refl _, fun _ _ _ => rfl⟩⟩
  · obtain ⟨g, cap, rfl, hbg, hgl, hncap, hcm, hlen, hH⟩ := Lib.holds_of_ownsRow h hv
    have hs := Any.slices_Sort_string Tryd.lays190 g 0 cap ss w hH hgl (by omega)
    rw [hlen] at hs
    refine hs.mono ?_
    rintro e w' ⟨rfl, nn, os, rfl⟩
    rcases h.2 with ⟨h0, _⟩ | ⟨g', cap', cur, e0, hbase, hb, h1, h2, h3, h4⟩
    · cases h0
    cases e0
    have ho := ownsRow_sorted (n := nn) (os := os) (ts := ss.mergeSort leS) (ss := ss) (List.length_mergeSort ss) hbase hb (by omega) h2 h3
    rw [hlen] at ho
    exact ⟨⟨_, rfl⟩, ho, grownBy_sorted _⟩
/-- slices.Compact of a row of one's own. -/
theorem compact_own {B n : Nat} {v : Value} {zs : List (List UInt8)} {w : World} (h : w.ownsRow B 9 1 v n (zs.map encStr)) (hn : n * 16 ≤ 140737488355328) :
    Calls Tryd.prog 41 #[v] w fun e w' => ∃ v', e = .returned v' ∧ w'.ownsRow B 9 1 v' (Lib.compact zs).length ((Lib.compact zs).map encStr) ∧ Below B w w' := by
  by_cases hv : v = .slice none 0 0
  · subst hv
    have h0 : zs = [] := by
      rcases h.2 with ⟨_, h2⟩ | ⟨g, cap, cur, e, _⟩
      · have h3 := h.1; simp at h3; exact List.eq_nil_of_length_eq_zero (by omega)
      · cases e
    subst h0
    have hn0 : n = 0 := by have := h.1; simpa using this.symm
    subst hn0
    refine (Any.slices_Compact_string_empty Tryd.lays194 none 0 w).mono ?_
    rintro e w' ⟨rfl, rfl⟩
    exact ⟨_, rfl, by simpa [Lib.compact, Lib.compactUpTo] using h, Below.refl _ _⟩
  · obtain ⟨g, cap, rfl, hbg, hgl, hncap, hcm, hlen, hH⟩ := Lib.holds_of_ownsRow h hv
    have hs := Any.slices_Compact_string Tryd.lays194 g 0 cap zs w hH (by omega) (by omega)
    rw [hlen] at hs
    refine hs.mono ?_
    rintro e w' ⟨rfl, q, rfl⟩
    have hle := Lib.compact_length_le zs
    have hc := Lib.ownsRow_putRow (q := q) (k := (Lib.compact zs).length) (ys := Lib.compact zs ++ List.replicate (n - (Lib.compact zs).length) []) h (by simp; omega) (by omega)
    rw [List.take_left] at hc
    exact ⟨_, rfl, hc, Lib.below_putRow (Below.refl _ _) hbg⟩
end Go.Proofs.YtpkbfljoakodoaaDoor
namespace Go.Proofs.YtpkbfljoakodoaaDoor
open Go.RowKit Go.Sort Go.Shelf
open S2 (bl bl_len bl_inj splitB splitV split_ok clone_ok Tab NTab ex_size)

theorem infoS9 : (Tryd.prog.info? 9).map (fun i => (i.zero, i.size, i.bytes)) = some (some (.string ⟨#[]⟩), 1, 16) := by kernel_rfl
/-- The paths whose signs are not sought any more. -/
def hits (S : List UInt8 → Bool) (ps : List ByteArray) : List ByteArray := ps.filter fun p => splitB (bl p) && !S (sgn p)
theorem hits_take (S : List UInt8 → Bool) (ps : List ByteArray) (n : Nat) (h : n < ps.length) : hits S (ps.take (n + 1)) = hits S (ps.take n) ++ (if splitB (bl ps[n]) && !S (sgn ps[n]) then [ps[n]] else []) := by
  unfold hits
  rw [List.take_succ_eq_append_getElem h, List.filter_append]
  congr 1
  cases hc : (splitB (bl ps[n]) && !S (sgn ps[n])) <;> simp [hc]
theorem enc_bl (l : List ByteArray) : (l.map bl).map encStr = l.map Value.string := by
  rw [List.map_map]
  refine List.map_congr_left fun s _ => ?_
  simp [encStr]
theorem own_belowS {w w' : World} {base n : Nat} {v : Value} {xs : List Value} (h : w.ownsRow base 9 1 v n xs) (hb : Below w.heap.size w w') : w'.ownsRow base 9 1 v n xs := by
  obtain ⟨h1, h2⟩ := h
  refine ⟨h1, ?_⟩
  rcases h2 with h2 | ⟨g, cap, cur, e, hb1, hg, h3⟩
  · exact .inl h2
  · exact .inr ⟨g, cap, cur, e, hb1, (hb.block g (Array.getElem?_eq_some_iff.1 hg).1).trans hg, h3⟩
theorem below_own {w0 w w' : World} {n : Nat} {v : Value} {xs : List Value} {e : TypeId} {s : Nat} (h : w.ownsRow w0.heap.size e s v n xs) (hb : Below w0.heap.size w0 w) (hg : w.grownBy w' v.ownBlock) : Below w0.heap.size w0 w' := by
  refine hb.grown hg hb.size (fun r hr => ?_)
  obtain ⟨_, ⟨rfl, _⟩ | ⟨g', cap, cur, rfl, hle, _⟩⟩ := h
  · cases hr
  · simp [Value.ownBlock] at hr; omega
theorem zero75 (w : World) : (zeroValue 75).run Tryd.prog w = .ok (.agg #[]) w := Tryd.zeroValue75 w
theorem set_look {w : World} {g N : Nat} {S : List UInt8 → Bool} {D : DataW Unit} (h : SetAt w g N S D) (q : ByteArray) (hq : q.size ≤ maxLen) : (Instr.lookup 55 (.map (some g)) (.string q) true).run Tryd.prog w = .ok (.tuple #[.agg #[], .bool (S (bl q))]) w := by
  obtain ⟨v, ps, h1, h2⟩ := h.own.look_ok str_keyed Tryd.underlying55 (zero75 w) unitElem_mk (Go.WideMaps.keyOf_string_mk Tryd.underlying9 hq)
  obtain ⟨rfl, _⟩ := unitElem_inv h2
  rw [h1, h.has]
set_option maxRecDepth 20000 in
set_option maxHeartbeats 4000000 in
/-- found: those paths whose signs are not in the set any more, rising, each once, on a row of its own. -/
theorem found_ok (a : Option Addr) (ps : List ByteArray) (c g N : Nat) (S : List UInt8 → Bool) (D : DataW Unit) (w : World) (h : StrsAt w a ps c) (hS : SetAt w g N S D) (hT : Tab w) (hNT : NTab w) :
    Calls Tryd.prog 24 #[.slice a ps.length c, .map (some g)] w fun e w' => ∃ v, e = .returned v ∧ w'.ownsRow w.heap.size 9 1 v (uniq ((hits S ps).map bl)).length ((uniq ((hits S ps).map bl)).map encStr) ∧ Below w.heap.size w w' := by
  obtain ⟨i0, hi, hz0, hz1, hz2⟩ := info_parts infoS9
  have hlen := h.len
  unfold big at hlen
  have H0 : Hid (StrsAt w a ps c) := h
  have HS : Hid (SetAt w g N S D) := hS
  have HT : Hid (Tab w) := hT
  have HN : Hid (NTab w) := hNT
  obtain ⟨L, hL⟩ : ∃ L, L = ps.length := ⟨_, rfl⟩
  rw [← hL] at hlen ⊢
  have HL : Hid _ := hL
  clear h hS hT hNT hL
  go_enter Tryd.func24, Tryd.ntmps24
  go_wp2
  go_loopw [5, 15] (fun v i wr => ∃ n : Nat, i = .int .i64 n ∧ n ≤ L ∧ wr.ownsRow w.heap.size 9 1 v (hits S (ps.take n)).length ((hits S (ps.take n)).map Value.string) ∧ Below w.heap.size w wr)
    (fun _ i _ => L - (intOf i).toNat)
  case atStart => exact ⟨0, rfl, Nat.zero_le _, World.ownsRow_nil .., Below.refl _ _⟩
  case round =>
    obtain ⟨n, rfl, hn, hown, hB⟩ := hrel
    have HB : Hid _ := hB
    have HO : Hid _ := hown
    by_cases hlt : n < L
    · have hlt' : n < ps.length := by rw [← HL.out]; exact hlt
      obtain ⟨b, off, ha, hcs⟩ := (H0.out.keep HB.out).ex
      have hc := hcs n hlt'
      obtain ⟨p, hp⟩ : ∃ p, p = ps[n] := ⟨_, rfl⟩
      have hps : p.size ≤ 140737488355328 := by
        have := H0.out.each p (by rw [hp]; exact List.getElem_mem _)
        unfold big at this
        omega
      have HF : Hid (hits S (ps.take (n + 1)) = hits S (ps.take n) ++ (if splitB (bl p) && !S (sgn p) then [p] else [])) := by
        show _ = _
        rw [hits_take S ps n hlt', ← hp]
      have hk : (hits S (ps.take n)).length ≤ n := by
        unfold hits
        exact Nat.le_trans (List.length_filter_le _ _) (by simp; omega)
      obtain ⟨k, hkk⟩ : ∃ k, k = (hits S (ps.take n)).length := ⟨_, rfl⟩
      rw [← hkk] at hk
      have HK : Hid _ := hkk
      rw [← hp] at hc
      have ha' := ha (by omega)
      subst ha'
      have hSp := split_ok p wr hps (HT.out.below HB.out HT.out.pos) (NTab.keep HN.out HB.out)
      clear hcs hp ha hB hown hkk
      cases hs : splitB (bl p) with
      | false =>
        have e1 : splitV p = .tuple #[.string ⟨#[]⟩, .string ⟨#[]⟩, .int .i64 17] := by unfold splitV; rw [hs]; rfl
        rw [e1] at hSp
        clear e1
        go_wp2_with (go_at_call 32; refine hSp.mono ?_; rintro e w1 ⟨rfl, hb1⟩; have HB1 : Hid _ := hb1; have hlk := set_look ((HS.out.keep HB.out).keep hb1) ⟨#[]⟩ (by decide); clear hb1 hSp)
        go_roundw
        case rel =>
          have hB := HB.out
          have hb1 := HB1.out
          have hb2 : Below wr.heap.size wr (w1.alloc (.cells #[] 75)) := hb1.alloc hb1.size _
          refine ⟨n + 1, by go_num, by omega, ?_, hB.trans (hb2.mono hB.size)⟩
          rw [HF.out, hs, ]
          simpa using own_belowS HO.out hb2
        case measure => simp [intOf]; omega
      | true =>
        obtain ⟨q, hq⟩ : ∃ q, q = p.extract 7 39 := ⟨_, rfl⟩
        obtain ⟨q2, hq2⟩ : ∃ q, q = p.extract 40 p.size := ⟨_, rfl⟩
        have e1 : splitV p = .tuple #[.string q, .string q2, .int .i64 0] := by unfold splitV; rw [hs, hq, hq2]; rfl
        rw [e1] at hSp
        have HQ : bl q = sgn p := by rw [hq]; exact win_ex p 7
        have hqs : q.size ≤ maxLen := by
          have : q.size ≤ p.size := by rw [hq]; simp; omega
          unfold maxLen
          omega
        have hset : ∀ w1, Below wr.heap.size wr w1 → (Instr.lookup 55 (.map (some g)) (.string q) true).run Tryd.prog w1 = .ok (.tuple #[.agg #[], .bool (S (sgn p))]) w1 := fun w1 hb1 => by
          rw [← HQ]
          exact set_look ((HS.out.keep HB.out).keep hb1) q hqs
        have HSET : Hid _ := hset
        clear e1 hq hq2 hqs HQ hset
        cases hb : S (sgn p) with
        | true =>
          have HS2 : Hid _ := hb
          go_wp2_with (go_at_call 32; refine hSp.mono ?_; rintro e w1 ⟨rfl, hb1⟩; have HB1 : Hid _ := hb1; have hlk := HSET.out w1 hb1; rw [hb] at hlk; clear hb1 hSp hb)
          go_roundw
          case rel =>
            have hB := HB.out
            have hb1 := HB1.out
            have hb2 : Below wr.heap.size wr (w1.alloc (.cells #[] 75)) := hb1.alloc hb1.size _
            refine ⟨n + 1, by go_num, by omega, ?_, hB.trans (hb2.mono hB.size)⟩
            rw [HF.out, hs, HS2.out]
            simpa using own_belowS HO.out hb2
          case measure => simp [intOf]; omega
        | false =>
          have HS2 : Hid _ := hb
          go_wp2_with (first
            | (go_at_call 32; refine hSp.mono ?_; rintro e w1 ⟨rfl, hb1⟩; have HB1 : Hid _ := hb1; have hlk := HSET.out w1 hb1; rw [hb] at hlk; clear hSp hb; have hC := clone_ok p (w1.alloc (.cells #[] 75)) hps; have hb2 : Below wr.heap.size wr (w1.alloc (.cells #[] 75)) := hb1.alloc hb1.size _; have HB2 : Hid _ := hb2; clear hb1 hb2)
            | (go_at_call 39; refine hC.mono ?_; rintro e w3 ⟨rfl, hb3⟩; have hb4 := HB2.out.trans (hb3.mono HB2.out.size); have HB4 : Hid _ := hb4; have hown3 := own_belowS HO.out hb4; rw [← HK.out] at hown3; have hsz3 := (HB.out.trans (hb4.mono HB.out.size)).size; clear hC hb3 hb4 hlk)
            | (at_builtin; refine wpList_append_own_wide _ rfl _ _ 23 rfl w.heap.size 9 i0 (.string ⟨#[]⟩) 1 16 Tryd.underlying23 hi hz0 hz1 hz2 rfl (by decide) _ _ _ rfl (hown3.alloc _) ⟨w3.heap.size, 0, none⟩ 1 1 [.string p] rfl rfl ?c1 ?c2 ?c3 ?c4 ?c5 ?_))
          case c1 => exact cell_one_new _ _ _
          case c2 => intro u hu; simp at hu; subst hu; rfl
          case c3 => unfold maxLen; omega
          case c4 => omega
          case c5 => simp; omega
          intro v' w5 hown5 hgrow5 _
          have H5 : Hid _ := hown5
          have HG5 : Hid _ := hgrow5
          have H3 : Hid _ := hown3
          clear hown5 hgrow5 hown3
          go_wp2
          go_roundw
          case rel =>
            have hB := HB.out
            have hb4 := HB4.out
            have hb6 : Below wr.heap.size wr (w3.alloc (.cells #[.string p] 9)) := hb4.alloc hb4.size _
            refine ⟨n + 1, by go_num, by omega, ?_, below_own (World.ownsRow.alloc H3.out _) (hB.trans (hb6.mono hB.size)) HG5.out⟩
            have h5 := H5.out
            rw [HF.out, hs, HS2.out]
            simp only [Bool.not_false, Bool.and_self, if_true, List.map_append, List.map_cons, List.map_nil, List.length_append, List.length_cons, List.length_nil]
            rw [← HK.out]
            exact h5
          case measure => simp [intOf]; omega
    · obtain rfl : n = L := by omega
      have hk : (hits S (ps.take n)).length ≤ n := by
        unfold hits
        exact Nat.le_trans (List.length_filter_le _ _) (by simp; omega)
      have e : ps.take n = ps := List.take_of_length_le (by have := HL.out; omega)
      rw [e, ← enc_bl] at hown
      rw [e] at hk
      have hso := sort_own hown (by omega)
      have HB : Hid _ := hB
      have HO : Hid _ := hown
      clear hB hown
      go_wp2_with (first
        | (go_at_call 40; refine hso.mono ?_; rintro e w1 ⟨⟨r, rfl⟩, hown1, hg1⟩; have hb1 := below_own HO.out HB.out hg1; have HB1 : Hid _ := hb1; have hco := compact_own hown1 (by omega); clear hown1 hg1 hb1 hso)
        | (go_at_call 41; refine hco.mono ?_; rintro e w2 ⟨v2, rfl, hown2, hb2⟩; have HO2 : Hid _ := hown2; have HB2 : Hid _ := hb2; clear hown2 hb2 hco))
      go_ret
      exact ⟨_, rfl, HO2.out, HB1.out.trans HB2.out⟩
end Go.Proofs.YtpkbfljoakodoaaDoor
