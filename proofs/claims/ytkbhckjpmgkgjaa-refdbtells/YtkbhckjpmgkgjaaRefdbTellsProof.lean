/- For every list of infos, every list of paths and every text: whether a graph is made of them, and its error; closures, referrers, what is dead, what was derived, the order and who refers to whom are the document's, also when the infos' own memory is written over behind New; no condition. -/
import Derived.Test.YtkbhckjpmgkgjaaGOpen
import Derived.Test.YtkbhckjpmgkgjaaG38
namespace Go.Proofs.Ytkbhckjpmgkgjaa.refdbTells
open Go.ChangeShapes Go.WideShapes Go.ChangeAt Go.RowKit
set_option linter.unusedVariables false

set_option maxRecDepth 100000 in
/-- The row's step. -/
theorem lifted (os : Os) (started : os.Started) (H : Type) (enc : TypeId × Value → H) :
    ReturnsInHanded {} Try.checked os 3 .any (Rows.refdbTellsSpec.pre6 enc Try.prog Try.f3 Rows.refdbTellsRow.domain false) (Rows.refdbTellsSpec.post enc Try.prog Try.f3 false true false false) := by
  refine returnsInHanded_of_change_sized (C := Try.checked) own started (by kernel_rfl) Try.func3
    (ChangeSpec.witness6 (enc := enc) (C := Try.checked) false ⟨#[], #[.slice none 0 0, .slice none 0 0, .string ByteArray.empty], []⟩ 8 (by kernel_rfl) (by kernel_rfl) (by kernel_rfl) (by kernel_rfl)) ?_
  intro W base args ds gs before hval0 hW hcnd hsz0 _
  have hval : ∀ (j : Nat) t v, Try.f3.params[j]? = some t → args[j]? = some v → Value.okWide Try.prog W .any base t v := hval0
  have hW' := hW
  obtain ⟨p, q, hA0, hV, rfl, hfz, hnd⟩ := hW
  have hA : DataW.TrodAll enc Try.prog W 0 (fun _ => true) true Try.f3.params.toList args.toList ds p := hA0
  rw [Try.params3] at hA hval hsz0
  obtain ⟨v0, vs0, d0, ds0, p0, q0, hargs, rfl, rfl, h0, r0⟩ := trodAll_cons hA
  obtain ⟨v1, vs1, d1, ds1, p1, q1, rfl, rfl, rfl, h1, r1⟩ := trodAll_cons r0
  obtain ⟨v2, vs2, d2, ds2, p2, q2, rfl, rfl, rfl, h2, r2⟩ := trodAll_cons r1
  obtain ⟨rfl, rfl, rfl⟩ := trodAll_nil r2
  obtain rfl : args = #[v0, v1, v2] := by cases args; simp_all
  obtain ⟨rfl, rfl⟩ := trodVars_none hV
  have lt0 : ∀ x ∈ p0, x.block < W.heap.size := by obtain ⟨m, hm⟩ := h0; exact DataW.trod_lt m _ _ _ hm
  have wt0 : ∀ n ∈ d0.weights Try.prog 22, n ≤ reachBytes := fun n hn => of_decide_eq_true (List.all_eq_true.1 hsz0 n (DataW.weights_mem_each (j := 0) rfl rfl n hn))
  have lt1 : ∀ x ∈ p1, x.block < W.heap.size := by obtain ⟨m, hm⟩ := h1; exact DataW.trod_lt m _ _ _ hm
  have wt1 : ∀ n ∈ d1.weights Try.prog 23, n ≤ reachBytes := fun n hn => of_decide_eq_true (List.all_eq_true.1 hsz0 n (DataW.weights_mem_each (j := 1) rfl rfl n hn))
  have lt2 : ∀ x ∈ p2, x.block < W.heap.size := by obtain ⟨m, hm⟩ := h2; exact DataW.trod_lt m _ _ _ hm
  have wt2 : ∀ n ∈ d2.weights Try.prog 9, n ≤ reachBytes := fun n hn => of_decide_eq_true (List.all_eq_true.1 hsz0 n (DataW.weights_mem_each (j := 2) rfl rfl n hn))
  have k0 := h0
  obtain ⟨la, L, lc, rfl, hLs, hLn⟩ : ∃ (la : Option Addr) (L : List Inf) (lc : Nat), v0 = .slice la L.length lc ∧ LsAt W la L lc ∧ L.length ≤ 140737488355328 := by
    obtain ⟨fuel, hf⟩ := h0
    obtain ⟨xa, xl, xc, rfl⟩ := okWide_slice Try.underlying22 (hval 0 22 v0 rfl rfl)
    exact open_ls (fuel := fuel) (x := (d0, p0)) (by simpa [Value.cells] using hf) wt0
  have k1 := h1
  obtain ⟨ra, R, rc, rfl, hRs⟩ : ∃ (ra : Option Addr) (R : List ByteArray) (rc : Nat), v1 = .slice ra R.length rc ∧ StrsAt W ra R rc := by
    obtain ⟨fuel, hf⟩ := h1
    obtain ⟨xa, xl, xc, rfl⟩ := okWide_slice Try.underlying23 (hval 1 23 v1 rfl rfl)
    exact open_strsN (fuel := fuel) (x := (d1, p1)) (by simpa [Value.cells] using hf) wt1
  obtain ⟨a2, rfl, rfl, rfl, w2⟩ := Go.ChangeMaps.open_string Try.underlying9 (hval 2 9 v2 rfl rfl) h2
  have l2 : a2.size ≤ big := by
    have h := wt2 a2.data.toList.length (by simp [DataW.weights])
    simp only [reachBytes] at h
    unfold big
    have h' : a2.size ≤ 140737488351232 := by simpa using h
    omega
  clear hA0 hval0 hsz0
  refine (law_tells L la lc R ra rc a2 W hLs hLn hRs l2).mono fun e W' ⟨he, bel⟩ => ?_
  subst he
  exact ⟨_, rfl, _, _, _, [], _, [], hW', trodAll_mk1 (shut_bool Try.underlying4 _), (trodAll_cons_mk (Below.trod laidOut (by kernel_rfl) (of_decide_eq_true (by kernel_rfl)) k0 bel lt0) (trodAll_cons_mk (Below.trod laidOut (by kernel_rfl) (of_decide_eq_true (by kernel_rfl)) k1 bel lt1) (trodAll_cons_mk (Go.ChangeMaps.shut_string Try.underlying9 w2) trodAll_mk0))), rfl, bel.frame _, fun h => by cases h⟩

theorem over : Rows.refdbTellsRow.holds Try.pinned (OpenSpec.ofChange Rows.refdbTellsSpec) :=
  OpenClaim.holds_of_wide 3 Try.f3 rfl rfl rfl rfl rfl rfl rfl ⟨rfl, rfl, rfl, rfl, rfl⟩ rfl rfl rfl rfl rfl (by kernel_rfl) Try.func3 (by kernel_rfl)
    (of_decide_eq_true (by kernel_rfl)) (by unfold Func.isWrapper; first | (rw [if_pos (by decide +kernel)]; kernel_rfl) | (rw [if_neg (by decide +kernel)]; exact ⟨rfl, rfl⟩))
    (fun os started H enc _ => lifted os started H enc)
end Go.Proofs.Ytkbhckjpmgkgjaa.refdbTells
namespace Go.Proofs.Ytkbhckjpmgkgjaa
/-- The statement. -/
theorem refdbTells_holds : Rows.RefdbTellsSaid := refdbTells.over
end Go.Proofs.Ytkbhckjpmgkgjaa
