/- For every number and every count: Narrow's answer is the one number with a sign of so many bits that has the same lowest bits, and narrowed again it stays; no condition. -/
import Derived.Test.YtonaefebgpohjaaRows
import Derived.WalkKit
import Derived.ProofKit
import Derived.OpenShut
import Derived.ShutString
import Derived.Test.YtonaefebgpohjaaNarrow
namespace Go.Proofs.Ytonaefebgpohjaa.bitsNarrow
open Go.ChangeShapes Go.WideShapes Go.ChangeAt Go.RowKit
open Go.ChangeMaps (open_string shut_string)
set_option linter.unusedVariables false

theorem own : ownKnob Try.prog.godebug = none := by kernel_rfl

/-- The law's walk, out of the contracts. -/
theorem walk (a0 : Int) (a1 : Int) (w0 : (Lit.int .u64 a0).wf = true) (w1 : (Lit.int .i64 a1).wf = true) (w : World) :
    Calls Try.prog 5 #[.int .u64 a0, .int .i64 a1] w fun e w' => e = .returned (.bool true) ∧ Grown w w' := by
  have b0 : 0 ≤ a0 ∧ a0 < 18446744073709551616 := by
    simp only [Lit.wf, IntKind.min, IntKind.max, IntKind.signed, IntKind.bits, Bool.and_eq_true] at w0
    simp at w0
    omega
  obtain ⟨m, hm, hm0, hm1⟩ : ∃ m : Nat, bits .and .i64 a1 63 = (m : Int) ∧ 0 ≤ (m : Int) ∧ (m : Int) ≤ 63 := by
    have h := Math.and_mask_i64 6 (by decide) a1
    have h0 := Int.emod_nonneg a1 (b := 64) (by decide)
    have h1 := Int.emod_lt_of_pos a1 (b := 64) (by decide)
    refine ⟨(a1 % 64).toNat, ?_, by omega, by omega⟩
    rw [show ((a1 % 64).toNat : Int) = a1 % 64 by omega]
    exact h
  have e1 : (64 - (1 + (m : Int))).toNat = 64 - (m + 1) := by omega
  have e2 : (1 + (m : Int)).toNat - 1 = m + 1 - 1 := by omega
  have e3 : (1 + (m : Int)) = ((m + 1 : Nat) : Int) := by omega
  have hbd := Math.nar_bd a0 (m + 1) (by omega) (by omega)
  have hag := Math.nar_again a0 (m + 1) (by omega) (by omega)
  have hmd := Math.nar_mod a0 (m + 1) (by omega) (by omega)
  have F1 := Math.and_same a0 _ (m + 1) (by omega) b0.1 b0.2 hmd
  by_cases h63 : m ≤ 62
  · obtain ⟨l1, l2⟩ := Math.lows (m + 1) (by omega) (by omega)
    refine (law_narrow1 a0 a1 m (Math.nar a0 ((m + 1 : Nat) : Int)) (2 ^ (m + 1) - 1) (-2 ^ (m + 1 - 1)) (2 ^ (m + 1 - 1) - 1) w hm hm0 (by omega) (by rw [e3]) (by rw [e3]; exact hag) (by rw [e1]; exact Math.mask_eq (m + 1) (by omega)) F1 (by rw [e2]; exact l1) (by rw [e2]; exact l2) hbd.1 hbd.2).mono ?_
    rintro e w' ⟨he, rfl⟩
    exact ⟨he, Grown.refl _⟩
  · obtain rfl : m = 63 := by omega
    refine (law_narrow2 a0 a1 (Math.nar a0 ((63 + 1 : Nat) : Int)) w hm rfl hag F1).mono ?_
    rintro e w' ⟨he, rfl⟩
    exact ⟨he, Grown.refl _⟩

set_option maxRecDepth 100000 in
theorem lifted (os : Os) (started : os.Started) (H : Type) (enc : TypeId × Value → H) :
    ReturnsInHanded {} Try.checked os 5 .any (Rows.bitsNarrowSpec.pre6 enc Try.prog Try.f5 Rows.bitsNarrowRow.domain false) (Rows.bitsNarrowSpec.post enc Try.prog Try.f5 false true false false) := by
  refine returnsInHanded_of_change (C := Try.checked) own started (by kernel_rfl) Try.func5
    (ChangeSpec.witness6 (enc := enc) (C := Try.checked) false ⟨#[], #[.int .u64 0, .int .i64 0], []⟩ 8 (by kernel_rfl) (by kernel_rfl) (by kernel_rfl) (by kernel_rfl)) ?_
  intro W base args ds gs before hval0 hW hcnd _
  have hval : ∀ (j : Nat) t v, Try.f5.params[j]? = some t → args[j]? = some v → Value.okWide Try.prog W .any base t v := hval0
  have hW' := hW
  obtain ⟨p, q, hA0, hV, rfl, hfz, hnd⟩ := hW
  have hA : DataW.TrodAll enc Try.prog W 0 (fun _ => true) true Try.f5.params.toList args.toList ds p := hA0
  rw [Try.params5] at hA hval
  obtain ⟨v0, vs0, d0, ds0, p0, q0, hargs, rfl, rfl, h0, r0⟩ := trodAll_cons hA
  obtain ⟨v1, vs1, d1, ds1, p1, q1, rfl, rfl, rfl, h1, r1⟩ := trodAll_cons r0
  obtain ⟨rfl, rfl, rfl⟩ := trodAll_nil r1
  obtain rfl : args = #[v0, v1] := by cases args; simp_all
  obtain ⟨rfl, rfl⟩ := trodVars_none hV
  obtain ⟨a0, rfl, rfl, rfl, w0⟩ := open_int Try.underlying22 (hval 0 22 v0 rfl rfl) h0
  obtain ⟨a1, rfl, rfl, rfl, w1⟩ := open_int Try.underlying3 (hval 1 3 v1 rfl rfl) h1
  clear hA0 hval0
  simp only [List.append_nil] at hW'
  refine (walk a0 a1 w0 w1 W).mono fun e W' ⟨he, hg⟩ => ?_
  subst he
  exact ⟨_, rfl, post_of_same (pa := []) (pv := []) hW' (fun _ _ _ => (trodAll_cons_mk (shut_bool Try.underlying4 _) trodAll_mk0)) (fun sp _ => (trodAll_cons_mk (shut_int Try.underlying22 w0) (trodAll_cons_mk (shut_int Try.underlying3 w1) trodAll_mk0))) (fun _ _ => rfl) rfl
    (hg.frame _) hg.2.1 (ok_one (by kernel_rfl) rfl (okWide_bool_mk Try.underlying4 _))⟩

theorem over : Rows.bitsNarrowRow.holds Try.pinned (OpenSpec.ofChange Rows.bitsNarrowSpec) :=
  OpenClaim.holds_of_wide 5 Try.f5 rfl rfl rfl rfl rfl rfl rfl ⟨rfl, rfl, rfl, rfl, rfl⟩ rfl rfl rfl rfl rfl (by kernel_rfl) Try.func5 (by kernel_rfl)
    (of_decide_eq_true (by kernel_rfl)) (by unfold Func.isWrapper; first | (rw [if_pos (by decide +kernel)]; kernel_rfl) | (rw [if_neg (by decide +kernel)]; exact ⟨rfl, rfl⟩))
    (fun os started H enc _ => lifted os started H enc)

/-- The statement. -/
theorem proved : Rows.BitsNarrowSaid :=
  over
end Go.Proofs.Ytonaefebgpohjaa.bitsNarrow
namespace Go.Proofs.Ytonaefebgpohjaa
theorem bitsNarrow_holds : Rows.BitsNarrowSaid := bitsNarrow.proved
end Go.Proofs.Ytonaefebgpohjaa
