/- Two digests compared: they are the same if all their bytes are. -/
import Derived.Test.YtppgidmeeaodkaaGreatDoorS2Arr
import Derived.DeepKeys
namespace Go.Proofs.YtppgidmeeaodkaaGreatDoor.S2
set_option maxRecDepth 20000
open Go.RowKit Math

/-- Are the first n bytes the same? -/
def same (n : Nat) (f g : Nat → Int) : Bool := (List.range n).all fun i => f i == g i

theorem same_iff_all (n : Nat) (f g : Nat → Int) : same n f g = true ↔ ∀ i, i < n → f i = g i := by simp [same]
theorem same_refl (n : Nat) (f : Nat → Int) : same n f f = true := (same_iff_all n f f).2 fun _ _ => rfl

theorem part_arr (f : Nat → Int) (n i : Nat) (hi : i < n) (w : World) : (part 5 (arr f n) (i * 1)).run Tryz.prog w = .ok (.int .u8 (f i)) w := by
  rw [Nat.mul_one]
  simp [part, isAgg, run_underlying Tryz.underlying5, arr_at f n i hi]

theorem eqItems_arr (f g : Nat → Int) (n d : Nat) (w : World) : ∀ is : List Nat, (∀ i ∈ is, i < n) → (Op.eqItems (d + 1) 5 1 (arr f n) (arr g n) is).run Tryz.prog w = .ok (is.all fun i => f i == g i) w
  | [], _ => by simp [Op.eqItems]
  | i :: is, h => by
    have h1 := part_arr f n i (h i (by simp)) w
    have h2 := part_arr g n i (h i (by simp)) w
    have ih := eqItems_arr f g n d w is (fun j hj => h j (by simp [hj]))
    have h3 := run_equalIn_int (P := Tryz.prog) w d 5 .u8 .u8 (f i) (g i) Tryz.underlying5
    simp only [Op.eqItems, Sem.run_bind, h1, h2, h3, Result.andThen_ok, List.all_cons]
    cases hb : (f i == g i)
    · simp
    · simpa using ih

theorem eq_arr (f g : Nat → Int) (t : TypeId) (hu : Tryz.prog.underlying t = some (.array 32 5)) (w : World) : (Op.equalIn 10000 t (.agg (arr f 32)) (.agg (arr g 32))).run Tryz.prog w = .ok (same 32 f g) w := by
  obtain ⟨i0, hi, _, hz1, _⟩ := info_parts Tryz.info5
  rw [run_equalIn_array w 9999 (arr f 32) (arr g 32) hu hi]
  have h := eqItems_arr f g 32 9998 w (List.range 32) (fun i hi => by simpa using hi)
  simpa [hz1, same, Program.cellsOf, hi] using h
end Go.Proofs.YtppgidmeeaodkaaGreatDoor.S2
