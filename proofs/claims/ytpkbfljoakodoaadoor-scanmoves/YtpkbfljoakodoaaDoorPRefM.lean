/- My own work: the walk of the document's own Make. -/
import Derived.Test.YtpkbfljoakodoaaDoorPMake
import Derived.Test.YtpkbfljoakodoaaDoorXJ
namespace Go.Proofs.YtpkbfljoakodoaaDoor.S2
open Go.RowKit Math

theorem refSum_conv (w : World) (s : ByteArray) (hs : s.size ≤ 140737488351232) : Calls Tryd.prog 36 #[.slice (some ⟨w.heap.size, 0, none⟩) s.size (grownCap w s.size 0 5)] (Lib.bytesWorld w 5 s) fun e w' => e = .returned (.agg (arr (digX (bl s)) 32)) ∧ Below (Lib.bytesWorld w 5 s).heap.size (Lib.bytesWorld w 5 s) w' := by
  have h := refSum_any (some ⟨w.heap.size, 0, none⟩) w.heap.size 0 s.size (grownCap w s.size 0 5) (s.size / 64) (s.size % 64) (if s.size % 64 + 9 > 64 then 2 else 1) (fX (bl s)) (Lib.bytesWorld w 5 s) (bs_conv w s) (fun h => nomatch h) (by omega) (by omega) (by omega) rfl
  unfold digX
  rw [bl_len]
  exact h
theorem has_no {l : List UInt8} {c : UInt8} {k : Nat} (h1 : ∀ j, (h : j < l.length) → j < k → l[j] ≠ c) (h2 : l.length ≤ k) : hasB l c = false := by
  unfold hasB
  cases h : l.contains c with
  | false => rfl
  | true =>
    obtain ⟨j, hj, e⟩ := List.getElem_of_mem (List.contains_iff_mem.1 h)
    exact absurd e (h1 j hj (by omega))
theorem has_yes {l : List UInt8} {c : UInt8} {k : Nat} (h : k < l.length) (h1 : l[k] = c) : hasB l c = true := by
  unfold hasB
  exact List.contains_iff_mem.2 (h1 ▸ List.getElem_mem h)
set_option maxRecDepth 20000 in
set_option maxHeartbeats 4000000 in
theorem refMake_ok (kind : ByteArray) (f : Nat → Int) (name : ByteArray) (w : World) (hks : kind.size ≤ 140737488355328) (hns : name.size ≤ 140737488355328) (hf : ∀ i, 0 ≤ f i ∧ f i < 256) (hf0 : ∀ i, 32 ≤ i → f i = 0) :
    Calls Tryd.prog 19 #[.string kind, .agg (arr f 32), .string name] w fun e w' => e = .returned (makeV kind f name) ∧ Below w.heap.size w w' := by
  obtain ⟨A, hA⟩ : ∃ A, A = arr f 32 := ⟨_, rfl⟩
  have hAs : A.size = 32 := by rw [hA, arr_size]
  rw [← hA]
  have HA : Hid _ := hA
  clear hA
  have hkl := bl_len kind
  have b0 : Below w.heap.size w (w.alloc (.cells A 45)) := (Below.refl _ _).alloc (Nat.le_refl _) _
  have hM := refName_ok name (w.alloc (.cells A 45)) hns
  cases hnm : nameB (bl name) with
  | false =>
    have HV : Hid (makeV kind f name = .tuple #[.string ⟨#[]⟩, .int .i64 17]) := by show _ = _; unfold makeV mayB; rw [hnm]; rfl
    rw [hnm] at hM
    go_enter Tryd.func19, Tryd.ntmps19
    go_wp2_with fail
    refine hM.mono ?_
    rintro e w1 ⟨rfl, hw1⟩
    rw [hw1]
    clear hM hw1 w1
    go_wp2
    go_ret2
    exact ⟨by rw [HV.out]; rfl, b0⟩
  | true =>
    rw [hnm] at hM
    by_cases hsz : 1 ≤ kind.size ∧ kind.size ≤ 20
    · obtain ⟨hk1, hk2⟩ := hsz
      go_enter Tryd.func19, Tryd.ntmps19
      go_wp2_with fail
      refine hM.mono ?_
      rintro e w1 ⟨rfl, hw1⟩
      rw [hw1]
      clear hM hw1 w1
      go_wp2
      obtain ⟨wA, hwA⟩ : ∃ x, x = w.alloc (.cells A 45) := ⟨_, rfl⟩
      have hrow : Row wA w.heap.size A 45 := by rw [hwA]; exact Row.new w A 45
      rw [← hwA] at b0
      try rw [← hwA]
      clear hwA
      go_loop [8] (fun i => ∃ k : Nat, k ≤ kind.size ∧ i = .int .i64 k ∧ Hid (∀ j, (h : j < (bl kind).length) → j < k → (bl kind)[j] ≠ 58)) (fun i => kind.size - (intOf i).toNat)
      case atStart => exact ⟨0, Nat.zero_le _, rfl, fun j h hj => absurd hj (by omega)⟩
      case round =>
        obtain ⟨k, hk, rfl, hall⟩ := hrel
        by_cases hlt : k < kind.size
        · by_cases hc : kind[k] = 58
          · have hc' : ((kind[k].toNat : Int) == 58) = true := by rw [hc]; rfl
            have HV : Hid (makeV kind f name = .tuple #[.string ⟨#[]⟩, .int .i64 17]) := by
              show _ = _
              have hh : hasB (bl kind) 58 = true := has_yes (by omega) hc
              unfold makeV mayB kindB
              rw [hh]
              simp
            clear hc
            go_wp2
            go_ret2
            exact ⟨by rw [HV.out]; rfl, b0⟩
          · have hc' : ((kind[k].toNat : Int) == 58) = false := by
              simp only [beq_eq_false_iff_ne]
              exact fun e => hc (UInt8.toNat_inj.1 (by simpa using (by omega : kind[k].toNat = 58)))
            have HC : Hid ((bl kind)[k] ≠ 58) := hc
            clear hc
            go_wp2
            go_round
            case rel =>
              exact ⟨k + 1, by omega, by go_num, fun q hq hqk => by
                by_cases e : q = k
                · subst e; exact HC.out
                · exact hall.out q hq (by omega)⟩
            case measure => simp [intOf]; omega
        · have hh : hasB (bl kind) 58 = false := has_no hall.out (by omega)
          have hkd : kindB (bl kind) = true := by unfold kindB; rw [hh, decide_eq_true (by omega)]; rfl
          have hmay : mayB kind name = true := by unfold mayB; rw [hnm, hkd]; rfl
          have HV : Hid (makeV kind f name = .tuple #[.string (pathE kind f name), .int .i64 0]) := by show _ = _; unfold makeV; rw [hmay]; rfl
          obtain ⟨hn1, hn2, _, _⟩ := may_facts hmay
          have htl := text_size kind f name
          have HTL : Hid ((textE kind f name).size ≤ 140737488351232) := by show _ ≤ _; omega
          have hE := refEncode_core (some ⟨w.heap.size, 0, none⟩) w.heap.size 0 32 32 52 f wA (by omega) (by omega) (by omega) (fun _ => rfl) (fun i hi => by rw [Nat.zero_add, hrow.cell, HA.out, arr_at _ _ _ hi]) hf hf0
          clear hmay htl hh hkd hnm
          obtain ⟨X, hX⟩ : ∃ X, X = strOfNums (enc (bitAt 8 f) 52) := ⟨_, rfl⟩
          obtain ⟨T, hTe⟩ : ∃ T, T = textE kind f name := ⟨_, rfl⟩
          have hXs : X.size = 52 := by rw [hX, strOfNums_size]; simp [enc]
          have hTx : kind ++ ⟨#[58]⟩ ++ X ++ ⟨#[58]⟩ ++ name = T := by rw [hTe, hX]; rfl
          rw [← hX] at hE
          have HX : Hid _ := hX
          have HTe : Hid _ := hTe
          clear hX hTe
          go_wp2_with fail
          refine hE.mono ?_
          rintro e w2 ⟨rfl, hb2⟩
          have hb02 := b0.trans (hb2.mono b0.size)
          clear hE hb2 b0 hrow
          have hcv := Lib.run_convert_string_bytes (P := Tryd.prog) w2 9 22 5 T Tryd.underlying9 Tryd.underlying22 Tryd.underlying5
          have hSm := refSum_conv w2 T (by rw [HTe.out]; exact HTL.out)
          go_wp2_with fail
          refine hSm.mono ?_
          rintro e w3 ⟨rfl, hb3⟩
          have hbc := bytesWorld_below w2 T
          have hb2c := hb02.trans (hbc.mono hb02.size)
          have hb03 := hb2c.trans (hb3.mono hb2c.size)
          clear hSm hcv hb3 hbc hb2c hb02 hTx
          obtain ⟨D, hD⟩ : ∃ D, D = arr (digX (bl T)) 32 := ⟨_, rfl⟩
          have hSh := refShort_any (digX (bl T)) (w3.alloc (.cells D 45))
          obtain ⟨S, hS⟩ : ∃ S, S = strOfNums (enc (bitAt 8 (short (digX (bl T)))) 32) := ⟨_, rfl⟩
          have hSs : S.size = 32 := by rw [hS, strOfNums_size]; simp [enc]
          have HP : Hid (pathE kind f name = ⟨#[47, 115, 116, 111, 114, 101, 47]⟩ ++ S ++ ⟨#[45]⟩ ++ name) := by show _ = _; rw [hS, HTe.out]; rfl
          rw [← hS] at hSh
          clear hS
          rw [← hD] at hSh
          rw [← hD]
          have hDs : D.size = 32 := by rw [hD, arr_size]
          have hD1 : D.all (·.oneCell') = true := by rw [hD]; exact arr_one _ _
          have hi22 : (Tryd.prog.info? 45).map (·.size) = some D.size := by rw [hDs]; kernel_rfl
          have hrD : Row (w3.alloc (.cells D 45)) w3.heap.size D 45 := Row.new w3 D 45
          have hb03' := hb03.alloc hb03.size (.cells D 45)
          clear hD hb03
          go_wp2_with (first
            | refine wpList_store_new rfl 45 _ _ rfl w3 zeros32 D 45 rfl w3.heap.size rfl rfl rfl hi22 (by rw [hDs]; rfl) hD1 ?_
            | refine wpList_load_row rfl 45 _ rfl w3.heap.size rfl 45 D (0, 0) _ hrD Tryd.underlying45 rfl hi22 ?_)
          refine hSh.mono ?_
          rintro e w4 ⟨rfl, hb4⟩
          have hb04 := hb03'.trans (hb4.mono hb03'.size)
          clear hSh hb4 hb03' hrD
          go_wp2
          go_ret2
          exact ⟨by rw [HV.out, HP.out]; rfl, hb04⟩
    · have HV : Hid (makeV kind f name = .tuple #[.string ⟨#[]⟩, .int .i64 17]) := by
        show _ = _
        unfold makeV mayB kindB
        rw [decide_eq_false (by omega)]
        simp
      go_enter Tryd.func19, Tryd.ntmps19
      go_wp2_with fail
      refine hM.mono ?_
      rintro e w1 ⟨rfl, hw1⟩
      rw [hw1]
      clear hM hw1 w1
      by_cases h1 : 1 ≤ kind.size
      · go_wp2
        go_ret2
        exact ⟨by rw [HV.out]; rfl, b0⟩
      · go_wp2
        go_ret2
        exact ⟨by rw [HV.out]; rfl, b0⟩
end Go.Proofs.YtpkbfljoakodoaaDoor.S2
