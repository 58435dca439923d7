/- For every number and every count: what Rotate turns there and back is as it was, and the number of a number's lowest bytes is that number's lowest bits; no condition. -/
import Derived.Test.YtonaefebgpohjaaRows
import Derived.WalkKit
import Derived.ProofKit
import Derived.OpenShut
import Derived.ShutString
import Derived.Test.YtonaefebgpohjaaTurns
import Derived.ChangeOld
import Derived.Below
namespace Go.Proofs.Ytonaefebgpohjaa.bitsTurns
open Go.ChangeShapes Go.WideShapes Go.ChangeAt Go.RowKit
open Go.ChangeMaps (open_string shut_string)
set_option linter.unusedVariables false

theorem own : ownKnob Try.prog.godebug = none := by kernel_rfl

/-- The law's walk, out of the contracts. -/
theorem walk (a0 : Int) (a1 : Int) (w0 : (Lit.int .u64 a0).wf = true) (w1 : (Lit.int .i64 a1).wf = true) (w : World) :
    Calls Try.prog 4 #[.int .u64 a0, .int .i64 a1] w fun e w' => e = .returned (.bool true) ∧ Below w.heap.size w w' := by
  have b0 : 0 ≤ a0 ∧ a0 < 18446744073709551616 := by
    simp only [Lit.wf, IntKind.min, IntKind.max, IntKind.signed, IntKind.bits, Bool.and_eq_true] at w0
    simp at w0
    omega
  have m16 := Math.and_mask_i64 16 (by decide) a1
  have m31 := fun n => Math.and_mask_i64 5 (by decide) n
  have hk0 : 0 ≤ a1 % 65536 ∧ a1 % 65536 < 65536 := by omega
  have hx : 0 ≤ a0 % 4294967296 ∧ a0 % 4294967296 < 4294967296 := by omega
  generalize hkk : a1 % 65536 = kk at hk0
  have e1 : Math.rot (Math.rot (a0 % 4294967296) (kk % 32)) (-kk % 32) = a0 % 4294967296 := by
    generalize a0 % 4294967296 = x at hx
    by_cases h : kk % 32 = 0
    · rw [show -kk % 32 = 0 by omega, h, Math.rot_zero _ hx.1 hx.2, Math.rot_zero _ hx.1 hx.2]
    · have hb := Math.rot_back x (kk % 32).toNat (by omega) hx.1 hx.2
      rw [show (((kk % 32).toNat : Nat) : Int) = kk % 32 by omega, show ((32 - (kk % 32).toNat : Nat) : Int) = -kk % 32 by omega] at hb
      exact hb
  refine law_turns a0 a1 kk (kk % 32) (-kk % 32) (a0 % 4294967296) w rfl (by rw [← hkk]; exact m16) (by omega) (by omega) (m31 kk) (by omega) (by omega) (m31 (-kk)) (by omega) (by omega) (m31 32) e1 (Math.rot_zero _ hx.1 hx.2)

set_option maxRecDepth 100000 in
theorem lifted (os : Os) (started : os.Started) (H : Type) (enc : TypeId × Value → H) :
    ReturnsInHanded {} Try.checked os 4 .any (Rows.bitsTurnsSpec.pre6 enc Try.prog Try.f4 Rows.bitsTurnsRow.domain false) (Rows.bitsTurnsSpec.post enc Try.prog Try.f4 false true false false) := by
  refine returnsInHanded_of_change (C := Try.checked) own started (by kernel_rfl) Try.func4
    (ChangeSpec.witness6 (enc := enc) (C := Try.checked) false ⟨#[], #[.int .u64 0, .int .i64 0], []⟩ 8 (by kernel_rfl) (by kernel_rfl) (by kernel_rfl) (by kernel_rfl)) ?_
  intro W base args ds gs before hval0 hW hcnd _
  have hval : ∀ (j : Nat) t v, Try.f4.params[j]? = some t → args[j]? = some v → Value.okWide Try.prog W .any base t v := hval0
  have hW' := hW
  obtain ⟨p, q, hA0, hV, rfl, hfz, hnd⟩ := hW
  have hA : DataW.TrodAll enc Try.prog W 0 (fun _ => true) true Try.f4.params.toList args.toList ds p := hA0
  rw [Try.params4] at hA hval
  obtain ⟨v0, vs0, d0, ds0, p0, q0, hargs, rfl, rfl, h0, r0⟩ := trodAll_cons hA
  obtain ⟨v1, vs1, d1, ds1, p1, q1, rfl, rfl, rfl, h1, r1⟩ := trodAll_cons r0
  obtain ⟨rfl, rfl, rfl⟩ := trodAll_nil r1
  obtain rfl : args = #[v0, v1] := by cases args; simp_all
  obtain ⟨rfl, rfl⟩ := trodVars_none hV
  obtain ⟨a0, rfl, rfl, rfl, w0⟩ := open_int Try.underlying22 (hval 0 22 v0 rfl rfl) h0
  obtain ⟨a1, rfl, rfl, rfl, w1⟩ := open_int Try.underlying3 (hval 1 3 v1 rfl rfl) h1
  clear hA0 hval0
  refine (walk a0 a1 w0 w1 W).mono fun e W' ⟨he, bel⟩ => ?_
  subst he
  exact ⟨_, rfl, _, _, _, [], _, [], hW', trodAll_mk1 (shut_bool Try.underlying4 _), (trodAll_cons_mk (shut_int Try.underlying22 w0) (trodAll_cons_mk (shut_int Try.underlying3 w1) trodAll_mk0)), rfl, bel.frame _, fun h => by cases h⟩

theorem over : Rows.bitsTurnsRow.holds Try.pinned (OpenSpec.ofChange Rows.bitsTurnsSpec) :=
  OpenClaim.holds_of_wide 4 Try.f4 rfl rfl rfl rfl rfl rfl rfl ⟨rfl, rfl, rfl, rfl, rfl⟩ rfl rfl rfl rfl rfl (by kernel_rfl) Try.func4 (by kernel_rfl)
    (of_decide_eq_true (by kernel_rfl)) (by unfold Func.isWrapper; first | (rw [if_pos (by decide +kernel)]; kernel_rfl) | (rw [if_neg (by decide +kernel)]; exact ⟨rfl, rfl⟩))
    (fun os started H enc _ => lifted os started H enc)

/-- The statement. -/
theorem proved : Rows.BitsTurnsSaid :=
  over
end Go.Proofs.Ytonaefebgpohjaa.bitsTurns
namespace Go.Proofs.Ytonaefebgpohjaa
theorem bitsTurns_holds : Rows.BitsTurnsSaid := bitsTurns.proved
end Go.Proofs.Ytonaefebgpohjaa
