/- My own work: the document's Wrong, by contract. -/
import Derived.Test.YtkbhckjpmgkgjaaG29
namespace Go.Proofs.Ytkbhckjpmgkgjaa
open Go.RowKit
open Classical

theorem paths_at {L : List Inf} {t : Nat} (ht : t < L.length) : L[t].path ∈ L.map (·.path) := List.mem_map.2 ⟨_, List.getElem_mem ht, rfl⟩
theorem nodup_paths {L : List Inf} (h : ∀ s t (hs : s < t) (ht : t < L.length), (L[s]'(by omega)).path ≠ L[t].path) : (L.map (·.path)).Nodup := by
  refine List.pairwise_iff_getElem.2 fun i j hi hj hij => ?_
  rw [List.getElem_map, List.getElem_map]
  exact h i j hij (by simpa using hj)
theorem int_beq {a b : Int} (h : a ≠ b) : (a == b) = false := by simpa using h
set_option maxRecDepth 20000 in
set_option maxHeartbeats 4000000 in
theorem refWrong_ok (L : List Inf) (a : Option Addr) (c : Nat) (w : World) (h : LsAt w a L c) (hL : L.length ≤ 4096) : Calls Try.prog 7 #[.slice a L.length c] w fun e w' => e = .returned (.int .i64 (wrongR L)) ∧ w' = w := by
  have hfi : ∀ x, Calls Try.prog 27 #[.slice a L.length c, .string x] w fun e w' => (∃ z : Int, e = .returned (.int .i64 z) ∧ FindP L x z) ∧ w' = w := fun x => refFind_ok L a c x w h (by omega)
  obtain ⟨b, off, ha, hc⟩ := h.ex
  have hle := h.le
  have HA : Hid _ := ha
  have HC : Hid _ := hc
  obtain ⟨n, hN⟩ : ∃ n, n = L.length := ⟨_, rfl⟩
  have HN : Hid _ := hN
  obtain ⟨R, hR⟩ : ∃ R, R = wrongR L := ⟨_, rfl⟩
  have HR : Hid _ := hR
  rw [← hN] at hL hle hfi ⊢
  rw [← hR]
  have HFi : Hid _ := hfi
  have h4 : ¬ (4096 : Int) < (n : Int) := by omega
  clear h ha hc hN hR hfi
  go_enter Try.func7, Try.ntmps7
  go_wp2
  go_loopw [3] (fun iv wr => ∃ i : Nat, iv = .int .i64 i ∧ i ≤ n ∧ wr = w ∧ ∀ s t (hs : s < t) (ht : t < L.length), t < i → (L[s]'(by omega)).path ≠ L[t].path) (fun iv _ => n - (intOf iv).toNat)
  case atStart => exact ⟨0, rfl, Nat.zero_le _, rfl, fun s t _ _ ht => absurd ht (Nat.not_lt_zero _)⟩
  case round =>
    obtain ⟨i, rfl, hi, rfl, hall⟩ := hrel
    have HAl : Hid _ := hall
    clear hall
    by_cases hlt : i < n
    · have hlt' : (i : Int) < (n : Int) := by omega
      have hil : i < L.length := by have := HN.out; omega
      obtain rfl := HA.out (by omega)
      obtain ⟨ra, rc, hrg, hif⟩ := HC.out i hil
      have hcell : wr.cell? ⟨b, off + i * 4, none⟩ = some (.string L[i].path) := hrg 0 _ rfl
      obtain ⟨y, hy⟩ : ∃ y, y = L[i].path := ⟨_, rfl⟩
      rw [← hy] at hcell
      have HY : Hid _ := hy
      have hfx := HFi.out y
      clear hy hrg hif
      go_wp2_with fail
      refine hfx.mono ?_
      rintro e w2 ⟨⟨z, rfl, hz⟩, rfl⟩
      obtain ⟨k, hk, rfl, hk1, hk2⟩ := hz.yes (by rw [HY.out]; exact paths_at hil)
      have HK1 : Hid _ := hk1
      have HK2 : Hid _ := hk2
      clear hz hk1 hk2 hfx
      by_cases hki : k = i
      · subst hki
        have HNx : Hid (∀ s t (hs : s < t) (ht : t < L.length), t < k + 1 → (L[s]'(by omega)).path ≠ L[t].path) := fun s t hs ht htk => by
          by_cases e : t = k
          · subst e
            rw [← HY.out]
            exact HK2.out s hs
          · exact HAl.out s t hs ht (by omega)
        go_wp2
        go_roundw
        case rel => exact ⟨k + 1, by go_num, by omega, trivial, HNx.out⟩
        case measure => simp [intOf]; omega
      · have hki' : ((k : Int) == (i : Int)) = false := int_beq (by omega)
        have HR13 : Hid (R = 13) := by
          show _ = _
          rw [HR.out]
          unfold wrongR
          rw [if_pos]
          intro hnd
          have hkl : k < i := by
            apply Decidable.byContradiction
            intro hge
            exact HK2.out i (by omega) HY.out.symm
          refine List.pairwise_iff_getElem.1 hnd k i (by simpa using hk) (by simpa using hil) hkl ?_
          rw [List.getElem_map, List.getElem_map]
          exact HK1.out.trans HY.out
        go_wp2
        go_ret
        exact ⟨by rw [HR13.out]; rfl, rfl⟩
    · have hlt' : ¬ (i : Int) < (n : Int) := by omega
      have HNd : Hid ((L.map (·.path)).Nodup) := nodup_paths fun s t hs ht => HAl.out s t hs ht (by have := HN.out; omega)
      clear HAl
      obtain ⟨wE, rfl⟩ : ∃ x, x = wr := ⟨wr, rfl⟩
      go_wp2
      go_loopw [4] (fun iv wi => ∃ j : Nat, iv = .int .i64 j ∧ j ≤ n ∧ wi = wE ∧ ∀ t (ht : t < L.length), t < j → ∀ r ∈ L[t].refs, r ∈ L.map (·.path)) (fun iv _ => n - (intOf iv).toNat)
      case atStart => exact ⟨0, rfl, Nat.zero_le _, rfl, fun t _ ht => absurd ht (Nat.not_lt_zero _)⟩
      case round =>
        obtain ⟨j, rfl, hj, hwe, hall⟩ := hrel
        subst hwe
        have HAl : Hid _ := hall
        clear hall
        by_cases hjl : j < n
        · have hjl' : (j : Int) < (n : Int) := by omega
          have hjL : j < L.length := by have := HN.out; omega
          obtain rfl := HA.out (by omega)
          obtain ⟨ra, rc, hrg, hif⟩ := HC.out j hjL
          have hcell : wr.cell? ⟨b, off + j * 4 + 3, none⟩ = some (.slice ra L[j].refs.length rc) := hrg 3 _ rfl
          obtain ⟨rb, ro, hra, hrcl⟩ := hif.refs.ex
          have hm9 := hif.refs.len
          have hmc := hif.refs.le
          unfold big at hm9
          obtain ⟨m, hm⟩ : ∃ m, m = L[j].refs.length := ⟨_, rfl⟩
          rw [← hm] at hcell hm9 hmc
          have HM : Hid _ := hm
          have HRA : Hid _ := hra
          have HRC : Hid _ := hrcl
          clear hm hrg hif hra hrcl
          obtain ⟨wE, rfl⟩ : ∃ x, x = wr := ⟨wr, rfl⟩
          go_wp2
          go_loopw [5] (fun kv wi => ∃ k : Nat, kv = .int .i64 k ∧ k ≤ m ∧ wi = wE ∧ ∀ t (ht : t < L[j].refs.length), t < k → L[j].refs[t] ∈ L.map (·.path)) (fun kv _ => m - (intOf kv).toNat)
          case atStart => exact ⟨0, rfl, Nat.zero_le _, rfl, fun t _ ht => absurd ht (Nat.not_lt_zero _)⟩
          case round =>
            obtain ⟨k, rfl, hk, hwe, hall⟩ := hrel
            subst hwe
            have HAk : Hid _ := hall
            clear hall
            by_cases hkm : k < m
            · have hkm' : (k : Int) < (m : Int) := by omega
              have hkL : k < L[j].refs.length := by have := HM.out; omega
              obtain rfl := HRA.out (by omega)
              have hrcell := HRC.out k hkL
              obtain ⟨y, hy⟩ : ∃ y, y = L[j].refs[k] := ⟨_, rfl⟩
              rw [← hy] at hrcell
              have HY : Hid _ := hy
              have hfx := HFi.out y
              clear hy
              go_wp2_with fail
              refine hfx.mono ?_
              rintro e w2 ⟨⟨z, rfl, hz⟩, rfl⟩
              clear hfx
              rcases hz with ⟨rfl, hno⟩ | ⟨q, hq, rfl, hq1, _⟩
              · have HR14 : Hid (R = 14) := by
                  show _ = _
                  rw [HR.out]
                  unfold wrongR
                  rw [if_neg (fun h => h HNd.out), if_pos]
                  exact ⟨HNd.out, L[j], List.getElem_mem _, L[j].refs[k], List.getElem_mem _, by rw [← HY.out]; exact hno⟩
                clear hno
                go_wp2
                go_ret
                exact ⟨by rw [HR14.out]; rfl, rfl⟩
              · have hq0 : ¬ (q : Int) < 0 := by omega
                have HNx : Hid (∀ t (ht : t < L[j].refs.length), t < k + 1 → L[j].refs[t] ∈ L.map (·.path)) := fun t ht htk => by
                  by_cases e : t = k
                  · subst e
                    rw [← HY.out, ← hq1]
                    exact paths_at hq
                  · exact HAk.out t ht (by omega)
                clear hq1
                go_wp2
                go_roundw
                case rel => exact ⟨k + 1, by go_num, by omega, trivial, HNx.out⟩
                case measure => simp [intOf]; omega
            · have hkm' : ¬ (k : Int) < (m : Int) := by omega
              have HNx : Hid (∀ t (ht : t < L.length), t < j + 1 → ∀ r ∈ L[t].refs, r ∈ L.map (·.path)) := fun t ht htj r hr => by
                by_cases e : t = j
                · subst e
                  obtain ⟨s, hs, rfl⟩ := List.getElem_of_mem hr
                  exact HAk.out s hs (by have := HM.out; omega)
                · exact HAl.out t ht (by omega) r hr
              go_wp2
              go_roundw
              case rel => exact ⟨j + 1, by go_num, by omega, trivial, HNx.out⟩
              case measure => simp [intOf]; omega
        · have hjl' : ¬ (j : Int) < (n : Int) := by omega
          have HR0 : Hid (R = 0) := by
            show _ = _
            rw [HR.out]
            unfold wrongR
            rw [if_neg (fun h => h HNd.out), if_neg]
            rintro ⟨_, i, hi, r, hr, hn⟩
            obtain ⟨t, ht, rfl⟩ := List.getElem_of_mem hi
            exact hn (HAl.out t ht (by have := HN.out; omega) r hr)
          go_wp2
          go_ret
          exact ⟨by rw [HR0.out]; rfl, rfl⟩
end Go.Proofs.Ytkbhckjpmgkgjaa
