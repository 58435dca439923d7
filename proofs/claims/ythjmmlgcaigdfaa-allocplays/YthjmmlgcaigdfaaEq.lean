/- Two sets compared; the walks of Clone, Same and Bytes. -/
import Derived.Test.YthjmmlgcaigdfaaCalls
import Derived.DeepKeys
import Derived.Laws.MakeOwn
import Derived.Deep.OwnRows
import Derived.Laws.CopyRow
namespace Go.Proofs.Ythjmmlgcaigdfaa
open Go.RowKit
variable {w : World} {g n : Nat} {S : Nat → Bool}

/-- Are the first n bytes the same? -/
def same (n : Nat) (f g : Nat → Int) : Bool := (List.range n).all fun i => f i == g i
theorem same_iff_all (n : Nat) (f g : Nat → Int) : same n f g = true ↔ ∀ i, i < n → f i = g i := by simp [same]
theorem same_refl (n : Nat) (f : Nat → Int) : same n f f = true := (same_iff_all n f f).2 fun _ _ => rfl
def arr (f : Nat → Int) : Array Value := (byts f 256).toArray
theorem arr_at (f : Nat → Int) (i : Nat) (h : i < 256) : (arr f)[i]? = some (.int .u8 (f i)) := by
  simp only [arr, List.getElem?_toArray]
  exact byts_at f 256 i h
theorem arr_size (f : Nat → Int) : (arr f).size = 256 := by simp [arr, byts_len]
theorem Try.info5 : (Try.prog.info? 5).map (fun i => (i.zero, i.size, i.bytes)) = some (some (.int .u8 0), 1, 1) := by kernel_rfl
theorem info5s : (Try.prog.info? 5).map (·.size) = some 1 := by kernel_rfl
theorem info51 : (Try.prog.info? 51).map (·.size) = some 256 := by kernel_rfl
theorem part_arr (f : Nat → Int) (i : Nat) (hi : i < 256) (w : World) : (part 5 (arr f) (i * 1)).run Try.prog w = .ok (.int .u8 (f i)) w := by
  rw [Nat.mul_one]
  simp [part, isAgg, run_underlying Try.underlying5, arr_at f i hi]
theorem eqItems_arr (f g : Nat → Int) (d : Nat) (w : World) : ∀ is : List Nat, (∀ i ∈ is, i < 256) → (Op.eqItems (d + 1) 5 1 (arr f) (arr g) is).run Try.prog w = .ok (is.all fun i => f i == g i) w
  | [], _ => by simp [Op.eqItems]
  | i :: is, h => by
    have h1 := part_arr f i (h i (by simp)) w
    have h2 := part_arr g i (h i (by simp)) w
    have ih := eqItems_arr f g d w is (fun j hj => h j (by simp [hj]))
    have h3 := run_equalIn_int (P := Try.prog) w d 5 .u8 .u8 (f i) (g i) Try.underlying5
    simp only [Op.eqItems, Sem.run_bind, h1, h2, h3, Result.andThen_ok, List.all_cons]
    cases hb : (f i == g i)
    · simp
    · simpa using ih
theorem eq_arr (f g : Nat → Int) (d : Nat) (w : World) : (Op.equalIn (d + 1 + 1) 51 (.agg (arr f)) (.agg (arr g))).run Try.prog w = .ok (same 256 f g) w := by
  obtain ⟨i0, hi, _, hz1, _⟩ := info_parts Try.info5
  rw [run_equalIn_array w (d + 1) (arr f) (arr g) Try.underlying51 hi]
  have h := eqItems_arr f g d w (List.range 256) (fun i hi => by simpa using hi)
  simpa [hz1, same, Program.cellsOf, hi] using h

/-- Have two sets of so many the same? -/
def sameB (n : Nat) (S : Nat → Bool) (m : Nat) (T : Nat → Bool) : Bool := decide (n = m) && same 256 (byt S) (byt T)
theorem sameB_refl (n : Nat) (S : Nat → Bool) : sameB n S n S = true := by simp [sameB, same_refl]
theorem sameB_no (n : Nat) (S : Nat → Bool) (m : Nat) (T : Nat → Bool) (k : Nat) (hk : k < 2048) (h : S k ≠ T k) : sameB n S m T = false := by
  cases e : sameB n S m T with
  | false => rfl
  | true =>
    simp only [sameB, Bool.and_eq_true] at e
    have e2 := (same_iff_all _ _ _).1 e.2 (k / 8) (by omega)
    have h1 := byt_and S k
    have h2 := byt_and T k
    rw [e2] at h1
    have h3 := h1.symm.trans h2
    have hp : (0 : Int) < 2 ^ (k % 8) := Int.pow_pos (by decide)
    cases hS : S k <;> cases hT : T k <;> simp [hS, hT] at h h3 <;> omega
theorem part_n (n : Nat) (S : Nat → Bool) (w : World) : (part 3 (setC n S) 0).run Try.prog w = .ok (.int .i64 n) w := by
  have h := setC_n n S
  generalize setC n S = A at *
  simp [part, isAgg, run_underlying Try.underlying3, h]
theorem part_rows (n : Nat) (S : Nat → Bool) (w : World) : (part 51 (setC n S) 1).run Try.prog w = .ok (.agg (arr (byt S))) w := by
  obtain ⟨i51, hi51, hz⟩ := Option.map_eq_some_iff.1 info51
  have hx : (setC n S).extract 1 257 = arr (byt S) := by
    unfold setC arr
    simp
    exact List.take_of_length_le (by rw [byts_len]; exact Nat.le_refl _)
  have hs : ∀ w, (sizeOf 51).run Try.prog w = .ok 256 w := fun w => by simp [sizeOf, typeInfo, hi51, hz]
  generalize setC n S = A at *
  generalize arr (byt S) = B at *
  simp [part, isAgg, run_underlying Try.underlying51, hs, hx]
theorem eq_fields (n : Nat) (S : Nat → Bool) (m : Nat) (T : Nat → Bool) (d : Nat) (w : World) : (Op.eqFields (d + 1 + 1) (setC n S) (setC m T) (Try.prog.fieldsOf 53).toList).run Try.prog w = .ok (sameB n S m T) w := by
  have q1 := part_n n S w
  have q2 := part_rows n S w
  have r1 := part_n m T w
  have r2 := part_rows m T w
  have p3 := run_equalIn_int (P := Try.prog) w (d + 1) 3 .i64 .i64 n m Try.underlying3
  have p4 := eq_arr (byt S) (byt T) d w
  have hq : ((n : Int) == (m : Int)) = decide (n = m) := by
    by_cases e : n = m
    · subst e; simp
    · simp [e]; omega
  unfold sameB
  generalize same 256 (byt S) (byt T) = b at *
  generalize setC n S = A at *
  generalize setC m T = B at *
  generalize arr (byt S) = X at *
  generalize arr (byt T) = Y at *
  rw [hq] at p3
  clear hq
  generalize decide (n = m) = c at *
  generalize d + 1 + 1 = D at *
  simp only [Program.fieldsOf, Try.underlying53, Op.eqFields]
  have hn1 : ("n" : String) ≠ "_" := by simp
  have hn2 : ("rows" : String) ≠ "_" := by simp
  rw [if_pos hn1, if_pos hn2]
  rw [Sem.run_bind, q1, Result.andThen_ok]
  rw [Sem.run_bind, r1, Result.andThen_ok]
  rw [Sem.run_bind, p3, Result.andThen_ok]
  cases c with
  | false => rfl
  | true =>
    show Sem.run Try.prog (do
        let a ← part 51 A 1
        let b ← part 51 B 1
        let r ← Op.equalIn D 51 a b
        if (!r) = true then pure false else pure true) w = Result.ok b w
    rw [Sem.run_bind, q2, Result.andThen_ok]
    rw [Sem.run_bind, r2, Result.andThen_ok]
    rw [Sem.run_bind, p4, Result.andThen_ok]
    cases b with
    | false => rfl
    | true => rfl
theorem eq_set (n : Nat) (S : Nat → Bool) (m : Nat) (T : Nat → Bool) (w : World) : (Op.equalIn 10000 53 (.agg (setC n S)) (.agg (setC m T))).run Try.prog w = .ok (sameB n S m T) w := by
  have hf : Try.prog.underlying 53 = some (.struct (Try.prog.fieldsOf 53)) := by simp only [Program.fieldsOf, Try.underlying53]
  rw [run_equalIn_struct w 9999 53 _ _ hf (by kernel_rfl)]
  exact eq_fields n S m T 9997 w
end Go.Proofs.Ythjmmlgcaigdfaa
