/- My own work: the walk of the document's own Split. -/
import Derived.Test.YthidlckipiamkaaDoorPSplit2
namespace Go.Proofs.YthidlckipiamkaaDoor.S2
open Go.RowKit Math

theorem splitB_short {l : List UInt8} (h : l.length < 41) : splitB l = false := by
  cases hb : splitB l with
  | false => rfl
  | true =>
    have := (nameB_facts (splitB_facts hb).2.2.2.2).1
    rw [List.length_drop] at this
    omega
theorem splitV_no {s : ByteArray} (h : splitB (bl s) = false) : splitV s = .tuple #[.string ⟨#[]⟩, .string ⟨#[]⟩, .int .i64 17] := by unfold splitV; rw [h]; rfl
theorem splitV_yes {s : ByteArray} (h : splitB (bl s) = true) : splitV s = .tuple #[.string (s.extract 7 39), .string (s.extract 40 s.size), .int .i64 0] := by unfold splitV; rw [h]; rfl
theorem pre7 (s : ByteArray) : ((s.extract 0 7).toList == [47, 115, 116, 111, 114, 101, 47]) = preB (bl STORE) (bl s) := by
  unfold preB
  rw [ByteArray.toList_eq]
  have e : (s.extract 0 7).data.toList = (bl s).take 7 := by
    have := bl_ex s 0 7
    rw [List.drop_zero] at this
    exact this
  rw [e]
  rfl
theorem pre39 {s : ByteArray} (h : 39 < s.size) : preB [45] ((bl s).drop 39) = decide (s[39] = 45) := by
  have h' : 39 < (bl s).length := by rw [bl_len]; exact h
  unfold preB
  rw [List.drop_eq_getElem_cons h', Bool.eq_iff_iff]
  simp
  rfl
set_option maxRecDepth 20000 in
set_option maxHeartbeats 2000000 in
theorem refSplit_ok (s : ByteArray) (w : World) (hs : s.size ≤ 140737488355328) : Calls Tryd.prog 37 #[.string s] w fun e w' => e = .returned (splitV s) ∧ Below w.heap.size w w' := by
  have hlen := bl_len s
  by_cases h41 : s.size < 41
  · have HV : Hid _ := splitV_no (splitB_short (l := bl s) (by omega))
    go_enter Tryd.func37, Tryd.ntmps37
    go_wp2
    go_ret3
    exact ⟨by rw [HV.out]; rfl, Below.refl _ _⟩
  · have hsplit : splitB (bl s) = (preB (bl STORE) (bl s) && (decide (s[39] = 45) && (signsB (bl (s.extract 7 39)) && nameB (bl (s.extract 40 s.size))))) := by
      unfold splitB
      rw [decide_eq_true (by omega), pre39 (by omega), ex_all, bl_ex, List.drop_take]
      rfl
    have hp := pre7 s
    cases hpre : preB (bl STORE) (bl s) with
    | false =>
      have HV : Hid _ := splitV_no (s := s) (by rw [hsplit, hpre]; rfl)
      rw [hpre] at hp
      clear hsplit hpre
      go_enter Tryd.func37, Tryd.ntmps37
      go_wp2
      go_ret3
      exact ⟨by rw [HV.out]; rfl, Below.refl _ _⟩
    | true =>
      rw [hpre] at hp hsplit
      clear hpre
      by_cases hd : s[39] = 45
      · have hd' : ((s[39].toNat : Int) != 45) = false := by rw [hd]; rfl
        rw [decide_eq_true hd, Bool.true_and, Bool.true_and] at hsplit
        obtain ⟨n, hn⟩ : ∃ n, s.extract 40 s.size = n := ⟨_, rfl⟩
        obtain ⟨g, hg⟩ : ∃ g, s.extract 7 39 = g := ⟨_, rfl⟩
        have hM := refName_ok n w (by rw [← hn, ex_size _ _ _ (Nat.le_refl _)]; omega)
        have hD := refDecode32 g (by rw [← hg, ex_size _ _ _ (by omega)]) w
        rw [hn, hg] at hsplit
        clear hd
        cases hnm : nameB (bl n) with
        | false =>
          have HV : Hid _ := splitV_no (s := s) (by rw [hsplit, hnm, Bool.and_false])
          rw [hnm] at hM
          clear hsplit hnm hD
          go_enter Tryd.func37, Tryd.ntmps37
          go_wp2_with fail
          refine hM.mono ?_
          rintro e w1 ⟨rfl, hw1⟩
          rw [hw1]
          clear hw1 hM
          go_wp2
          go_ret3
          exact ⟨by rw [HV.out]; rfl, Below.refl _ _⟩
        | true =>
          rw [hnm, Bool.and_true] at hsplit
          rw [hnm] at hM
          clear hnm
          cases hsg : signsB (bl g) with
          | false =>
            have HV : Hid _ := splitV_no (s := s) (by rw [hsplit, hsg])
            rw [show signE g = 10 by unfold signE; rw [hsg]; rfl] at hD
            clear hsplit hsg
            go_enter Tryd.func37, Tryd.ntmps37
            go_wp2_with fail
            refine hM.mono ?_
            rintro e w1 ⟨rfl, hw1⟩
            rw [hw1]
            clear hw1 hM
            go_wp2_with fail
            refine hD.mono ?_
            rintro e w1 ⟨⟨v, rfl⟩, hb⟩
            clear hD
            go_wp2
            go_ret3
            exact ⟨by rw [HV.out]; rfl, hb⟩
          | true =>
            have HV : Hid (splitV s = .tuple #[.string g, .string n, .int .i64 0]) := by show _ = _; rw [splitV_yes (by rw [hsplit, hsg]), hn, hg]
            rw [show signE g = 0 by unfold signE; rw [hsg]; rfl] at hD
            clear hsplit hsg
            go_enter Tryd.func37, Tryd.ntmps37
            go_wp2_with fail
            refine hM.mono ?_
            rintro e w1 ⟨rfl, hw1⟩
            rw [hw1]
            clear hw1 hM
            go_wp2_with fail
            refine hD.mono ?_
            rintro e w1 ⟨⟨v, rfl⟩, hb⟩
            clear hD
            go_wp2
            go_quiet (fail)
            have hb' := below_drewN hb nq
            go_wp2
            go_ret3
            exact ⟨by rw [HV.out]; rfl, hb'⟩
      · have hd' : ((s[39].toNat : Int) != 45) = true := by
          simp only [bne_iff_ne]
          exact fun e => hd (UInt8.toNat_inj.1 (by simpa using (by omega : s[39].toNat = 45)))
        have HV : Hid _ := splitV_no (s := s) (by rw [hsplit, decide_eq_false hd]; rfl)
        clear hsplit
        go_enter Tryd.func37, Tryd.ntmps37
        go_wp2
        go_ret3
        exact ⟨by rw [HV.out]; rfl, Below.refl _ _⟩
end Go.Proofs.YthidlckipiamkaaDoor.S2
