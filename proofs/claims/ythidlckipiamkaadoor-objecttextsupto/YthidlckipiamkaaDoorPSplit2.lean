/- My own work: the walks of Split, Base, and of the document's own Split. -/
import Derived.Test.YthidlckipiamkaaDoorPSplit
namespace Go.Proofs.YthidlckipiamkaaDoor.S2
open Go.RowKit Math

abbrev STORE : ByteArray := ⟨#[47, 115, 116, 111, 114, 101, 47]⟩
/-- Is a text a path? -/
def splitB (l : List UInt8) : Bool := preB (bl STORE) l && (decide (39 ≤ l.length) && (preB [45] (l.drop 39) && (signsB ((l.drop 7).take 32) && nameB (l.drop 40))))
/-- What Split tells. -/
def splitV (s : ByteArray) : Value := if splitB (bl s) then .tuple #[.string (s.extract 7 39), .string (s.extract 40 s.size), .int .i64 0] else .tuple #[.string ⟨#[]⟩, .string ⟨#[]⟩, .int .i64 17]
theorem bl_ex (s : ByteArray) (a b : Nat) : bl (s.extract a b) = ((bl s).take b).drop a := by
  simp [bl, ByteArray.data_extract, List.drop_take]
theorem ex_all (s : ByteArray) (a : Nat) : bl (s.extract a s.size) = (bl s).drop a := by
  rw [bl_ex, List.take_of_length_le (by rw [bl_len]; exact Nat.le_refl _)]
theorem ex_size (s : ByteArray) (a b : Nat) (h : b ≤ s.size) : (s.extract a b).size = b - a := by
  rw [← bl_len, bl_ex, List.length_drop, List.length_take, bl_len]
  omega
set_option maxRecDepth 20000 in
set_option maxHeartbeats 2000000 in
theorem split_ok (s : ByteArray) (w : World) (hs : s.size ≤ 140737488355328) (hT : Tab w) (hN : NTab w) : Calls Tryd.prog 43 #[.string s] w fun e w' => e = .returned (splitV s) ∧ Below w.heap.size w w' := by
  have hlen := bl_len s
  have hC := cutPrefix_ok s STORE w
  cases hp : preB (bl STORE) (bl s) with
  | false =>
    have HV : Hid (splitV s = .tuple #[.string ⟨#[]⟩, .string ⟨#[]⟩, .int .i64 17]) := by show _ = _; unfold splitV splitB; rw [hp]; rfl
    have hc : cutE s STORE = s := by unfold cutE; rw [hp]; rfl
    rw [hp, hc] at hC
    clear hp hc
    go_enter Tryd.func43, Tryd.ntmps43
    go_wp2_with (go_at_call 52; refine hC.mono ?_; rintro e w1 ⟨rfl, hw1⟩; rw [hw1]; clear hw1)
    go_ret3
    exact ⟨by rw [HV.out]; rfl, Below.refl _ _⟩
  | true =>
    have h7 : 7 ≤ s.size := preB_le hp
    obtain ⟨b, hb⟩ : ∃ b, b = s.extract 7 s.size := ⟨_, rfl⟩
    have hc : cutE s STORE = b := by unfold cutE; rw [hp, hb]; rfl
    have hbs : b.size = s.size - 7 := by rw [hb, ex_size _ _ _ (Nat.le_refl _)]
    have hbl : bl b = (bl s).drop 7 := by rw [hb, ex_all]
    rw [hp, hc] at hC
    by_cases h39 : 39 ≤ s.size
    · obtain ⟨g, hg⟩ : ∃ g, g = b.extract 0 32 := ⟨_, rfl⟩
      obtain ⟨r, hr⟩ : ∃ r, r = b.extract 32 b.size := ⟨_, rfl⟩
      have hgs : g.size = 32 := by rw [hg, ex_size _ _ _ (by omega)]
      have hgl : bl g = ((bl s).drop 7).take 32 := by rw [hg, bl_ex, List.drop_zero, hbl]
      have hrl : bl r = (bl s).drop 39 := by rw [hr, ex_all, hbl, List.drop_drop]
      have hrs : r.size = s.size - 39 := by rw [hr, ex_size _ _ _ (Nat.le_refl _)]; omega
      have hG : s.extract 7 39 = g := bl_inj (by rw [bl_ex, hgl, List.drop_take])
      have hC2 := cutPrefix_ok r ⟨#[45]⟩ w
      have hVn : splitB (bl s) = (preB [45] (bl r) && (signsB (bl g) && nameB ((bl s).drop 40))) := by
        unfold splitB
        rw [hp, hrl, hgl, decide_eq_true (by omega)]
        rfl
      have hg' := hg.symm
      have hr' := hr.symm
      have HG : Hid _ := hG
      have hb32 : 32 ≤ b.size := by omega
      have hbm : b.size ≤ 140737488355328 := by omega
      have hrm : r.size ≤ 140737488355328 := by omega
      have HGS : Hid _ := hgs
      have hN40 : ∀ n, n = r.extract 1 r.size → preB [45] (bl r) = true → bl n = (bl s).drop 40 ∧ n = s.extract 40 s.size := fun n hn hd => by
        have e1 : bl n = (bl s).drop 40 := by rw [hn, ex_all, hrl, List.drop_drop]
        exact ⟨e1, bl_inj (by rw [e1, ex_all])⟩
      have HN40 : Hid _ := hN40
      clear hg hr hbl hrl hgl hp hc hb hG hbs hrs hgs hN40
      cases hd : preB [45] (bl r) with
      | false =>
        have HV : Hid (splitV s = .tuple #[.string ⟨#[]⟩, .string ⟨#[]⟩, .int .i64 17]) := by show _ = _; unfold splitV; rw [hVn, hd]; rfl
        have hc : cutE r ⟨#[45]⟩ = r := by unfold cutE; rw [show bl ⟨#[45]⟩ = [45] from rfl, hd]; rfl
        rw [show bl ⟨#[45]⟩ = [45] from rfl, hd, hc] at hC2
        clear hVn hd hc
        go_enter Tryd.func43, Tryd.ntmps43
        go_wp2_with fail
        refine hC.mono ?_
        rintro e w1 ⟨rfl, hw1⟩
        rw [hw1]
        clear hw1 hC
        go_wp2_with fail
        refine hC2.mono ?_
        rintro e w1 ⟨rfl, hw1⟩
        rw [hw1]
        clear hw1 hC2
        go_wp2
        go_ret3
        exact ⟨by rw [HV.out]; rfl, Below.refl _ _⟩
      | true =>
        obtain ⟨n, hn⟩ : ∃ n, n = r.extract 1 r.size := ⟨_, rfl⟩
        have hc : cutE r ⟨#[45]⟩ = n := by unfold cutE; rw [show bl ⟨#[45]⟩ = [45] from rfl, hd, hn]; rfl
        obtain ⟨hnl, hne⟩ := HN40.out n hn hd
        have HNE : Hid _ := hne
        rw [show bl ⟨#[45]⟩ = [45] from rfl, hd, hc] at hC2
        rw [hd, ← hnl, Bool.true_and] at hVn
        have hnm : n.size ≤ 140737488355328 := by rw [hn, ex_size _ _ _ (Nat.le_refl _)]; omega
        have HT : Hid _ := hT
        have HNT : Hid (NTab w) := hN
        have hS := areSigns_ok g HGS.out w hT
        clear hd hc hn hnl hne hT hN
        cases hsg : signsB (bl g) with
        | false =>
          have HV : Hid (splitV s = .tuple #[.string ⟨#[]⟩, .string ⟨#[]⟩, .int .i64 17]) := by show _ = _; unfold splitV; rw [hVn, hsg]; rfl
          rw [hsg] at hS
          clear hVn hsg
          go_enter Tryd.func43, Tryd.ntmps43
          go_wp2_with fail
          refine hC.mono ?_
          rintro e w1 ⟨rfl, hw1⟩
          rw [hw1]
          clear hw1 hC
          go_wp2_with fail
          refine hC2.mono ?_
          rintro e w1 ⟨rfl, hw1⟩
          rw [hw1]
          clear hw1 hC2
          go_wp2_with fail
          refine hS.mono ?_
          rintro e w1 ⟨rfl, hb1⟩
          clear hS
          go_wp2
          go_ret3
          exact ⟨by rw [HV.out]; rfl, hb1⟩
        | true =>
          rw [hsg, Bool.true_and] at hVn
          rw [hsg] at hS
          clear hsg
          have HVN : Hid _ := hVn
          clear hVn
          go_enter Tryd.func43, Tryd.ntmps43
          go_wp2_with fail
          refine hC.mono ?_
          rintro e w1 ⟨rfl, hw1⟩
          rw [hw1]
          clear hw1 hC
          go_wp2_with fail
          refine hC2.mono ?_
          rintro e w1 ⟨rfl, hw1⟩
          rw [hw1]
          clear hw1 hC2
          go_wp2_with fail
          refine hS.mono ?_
          rintro e w1 ⟨rfl, hb1⟩
          clear hS
          have hM := name_ok n w1 (NTab.keep HNT.out hb1)
          cases hnm' : nameB (bl n) with
          | false =>
            have HV : Hid (splitV s = .tuple #[.string ⟨#[]⟩, .string ⟨#[]⟩, .int .i64 17]) := by show _ = _; unfold splitV; rw [HVN.out, hnm']; rfl
            rw [hnm'] at hM
            clear hnm'
            go_wp2_with fail
            refine hM.mono ?_
            rintro e w2 ⟨rfl, hb2⟩
            clear hM
            have hb12 := hb1.trans (hb2.mono hb1.size)
            go_wp2
            go_ret3
            exact ⟨by rw [HV.out]; rfl, hb12⟩
          | true =>
            have HV : Hid (splitV s = .tuple #[.string g, .string n, .int .i64 0]) := by show _ = _; unfold splitV; rw [HVN.out, hnm', HG.out, HNE.out]; rfl
            rw [hnm'] at hM
            clear hnm'
            go_wp2_with fail
            refine hM.mono ?_
            rintro e w2 ⟨rfl, hb2⟩
            clear hM
            have hb12 := hb1.trans (hb2.mono hb1.size)
            clear hb1 hb2
            go_wp2_with fail
            refine (clone_ok g w2 (by rw [HGS.out]; decide)).mono ?_
            rintro e w3 ⟨rfl, hb3⟩
            have hb13 := hb12.trans (hb3.mono hb12.size)
            clear hb12 hb3
            go_wp2_with fail
            refine (clone_ok n w3 hnm).mono ?_
            rintro e w4 ⟨rfl, hb4⟩
            have hb14 := hb13.trans (hb4.mono hb13.size)
            clear hb13 hb4
            go_wp2
            go_ret3
            exact ⟨by rw [HV.out]; rfl, hb14⟩
    · have HV : Hid (splitV s = .tuple #[.string ⟨#[]⟩, .string ⟨#[]⟩, .int .i64 17]) := by
        show _ = _
        unfold splitV splitB
        rw [hp, decide_eq_false (by omega)]
        rfl
      clear hp hc hb hbl
      go_enter Tryd.func43, Tryd.ntmps43
      go_wp2_with (go_at_call 52; refine hC.mono ?_; rintro e w1 ⟨rfl, hw1⟩; rw [hw1]; clear hw1)
      go_ret3
      exact ⟨by rw [HV.out]; rfl, Below.refl _ _⟩
/-- What Base tells. -/
def baseE (s : ByteArray) : ByteArray := if splitB (bl s) then s.extract 7 s.size else ⟨#[]⟩
theorem splitB_facts {l : List UInt8} (h : splitB l = true) : preB (bl STORE) l = true ∧ 39 ≤ l.length ∧ preB [45] (l.drop 39) = true ∧ signsB ((l.drop 7).take 32) = true ∧ nameB (l.drop 40) = true := by
  unfold splitB at h
  simp only [Bool.and_eq_true, decide_eq_true_eq] at h
  exact h
theorem nameB_facts {l : List UInt8} (h : nameB l = true) : 1 ≤ l.length ∧ l.length ≤ 27 ∧ l.head? ≠ some 46 ∧ l.all nameC = true := by
  unfold nameB at h
  simp only [Bool.and_eq_true, decide_eq_true_eq] at h
  exact ⟨h.1.1, h.1.2.1, h.1.2.2, h.2⟩
theorem drop_dash {l : List UInt8} (h : preB [45] (l.drop 39) = true) : l.drop 39 = 45 :: l.drop 40 := by
  unfold preB at h
  have e := beq_iff_eq.1 h
  rw [← List.take_append_drop 1 (l.drop 39), List.drop_drop]
  simp only [List.length_cons, List.length_nil, Nat.zero_add] at e
  rw [e]
  rfl
/-- The signs, the dash, the name: what stands behind Store. -/
theorem base_cat {s : ByteArray} (h : splitB (bl s) = true) : s.extract 7 39 ++ ⟨#[45]⟩ ++ s.extract 40 s.size = s.extract 7 s.size := by
  obtain ⟨_, h2, h3, _, _⟩ := splitB_facts h
  apply bl_inj
  have e : ∀ a b : ByteArray, bl (a ++ b) = bl a ++ bl b := fun a b => by simp [bl, ByteArray.data_append]
  rw [e, e, ex_all, ex_all, bl_ex, show bl ⟨#[45]⟩ = [45] from rfl, List.append_assoc, List.singleton_append, ← drop_dash h3, List.drop_take]
  have := List.take_append_drop 32 ((bl s).drop 7)
  rw [List.drop_drop] at this
  exact this
end Go.Proofs.YthidlckipiamkaaDoor.S2
