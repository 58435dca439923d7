/- My own work: the law of Split by walk. -/
import Derived.Test.YtdgilhclhnchbaaDoorPRefS
import Derived.Test.YtdgilhclhnchbaaDoorPMake
namespace Go.Proofs.YtdgilhclhnchbaaDoor.S2
open Go.RowKit Math

theorem names_ok (w : World) : Calls Tryd.prog 11 #[] w fun e w' => e = .returned (.bool true) ∧ w' = w := by
  go_enter Tryd.func11, Tryd.ntmps11
  go_wp2
  go_ret
  exact ⟨rfl, rfl⟩
set_option maxRecDepth 20000 in
set_option maxHeartbeats 2000000 in
theorem law_splits (s : ByteArray) (w : World) (hs : s.size ≤ 140737488355328) (hT : Tab w) (hN : NTab w) : Calls Tryd.prog 4 #[.string s] w fun e w' => e = .returned (.bool true) ∧ Below w.heap.size w w' := by
  have hlen := bl_len s
  have hS := split_ok s w hs hT hN
  have HT : Hid (Tab w) := hT
  have HN : Hid (NTab w) := hN
  clear hT hN
  cases h : splitB (bl s) with
  | false =>
    rw [splitV_no h] at hS
    have HB : Hid (baseE s = ⟨#[]⟩) := by show _ = _; unfold baseE; rw [h]; rfl
    have HR : Hid _ := splitV_no h
    go_enter Tryd.func4, Tryd.ntmps4
    go_wp2_with fail
    refine hS.mono ?_
    rintro e w1 ⟨rfl, hb1⟩
    clear hS
    have hR := refSplit_ok s w1 hs
    rw [HR.out] at hR
    go_wp2_with fail
    refine hR.mono ?_
    rintro e w2 ⟨rfl, hb2⟩
    clear hR
    have hb12 := hb1.trans (hb2.mono hb1.size)
    have hBa := base_ok s w2 hs (Tab.keep HT.out hb12) (NTab.keep HN.out hb12)
    rw [HB.out] at hBa
    clear hb1 hb2
    go_wp2_with fail
    refine hBa.mono ?_
    rintro e w3 ⟨rfl, hb3⟩
    have hb13 := hb12.trans (hb3.mono hb12.size)
    clear hb12 hb3 hBa
    go_wp2_with (go_at_call 11; refine (names_ok _).mono ?_; rintro e w4 ⟨rfl, rfl⟩)
    go_ret
    exact ⟨rfl, hb13⟩
  | true =>
    rw [splitV_yes h] at hS
    have HB : Hid (baseE s = s.extract 7 s.size) := by show _ = _; unfold baseE; rw [h]; rfl
    have HR : Hid _ := splitV_yes h
    have h7 : 39 ≤ s.size := by have := (splitB_facts h).2.1; omega
    obtain ⟨g, hg⟩ : ∃ g, s.extract 7 39 = g := ⟨_, rfl⟩
    obtain ⟨n, hn⟩ : ∃ n, s.extract 40 s.size = n := ⟨_, rfl⟩
    obtain ⟨b, hb⟩ : ∃ b, s.extract 7 s.size = b := ⟨_, rfl⟩
    have HR' : Hid (splitV s = Value.tuple #[Value.string g, Value.string n, Value.int IntKind.i64 0]) := by show _ = _; rw [HR.out, hg, hn]
    have HB' : Hid (baseE s = b) := HB.out.trans hb
    rw [hg, hn] at hS
    clear hg hn HB HR h
    go_enter Tryd.func4, Tryd.ntmps4
    go_wp2_with fail
    refine hS.mono ?_
    rintro e w1 ⟨rfl, hb1⟩
    clear hS
    have hR := refSplit_ok s w1 hs
    rw [HR'.out] at hR
    go_wp2_with fail
    refine hR.mono ?_
    rintro e w2 ⟨rfl, hb2⟩
    clear hR
    have hb12 := hb1.trans (hb2.mono hb1.size)
    have hBa := base_ok s w2 hs (Tab.keep HT.out hb12) (NTab.keep HN.out hb12)
    rw [HB'.out] at hBa
    clear hb1 hb2
    go_wp2_with fail
    refine hBa.mono ?_
    rintro e w3 ⟨rfl, hb3⟩
    have hb13 := hb12.trans (hb3.mono hb12.size)
    clear hb12 hb3 hBa
    go_wp2_with (go_at_call 11; refine (names_ok _).mono ?_; rintro e w4 ⟨rfl, rfl⟩)
    go_ret
    exact ⟨rfl, hb13⟩
end Go.Proofs.YtdgilhclhnchbaaDoor.S2
