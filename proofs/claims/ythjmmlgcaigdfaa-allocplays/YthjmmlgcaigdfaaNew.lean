/- The walks of New, and of all calls where there is no set. -/
import Derived.Test.YthjmmlgcaigdfaaIn
namespace Go.Proofs.Ythjmmlgcaigdfaa
open Go.RowKit
variable {w : World} {g n : Nat} {S : Nat → Bool}

def none' : Nat → Bool := fun _ => false
theorem built_new (n : Nat) : Try.prog.built 53 [(0, .int .i64 n)] = some (setC n none') := by kernel_rfl
theorem info53 : (Try.prog.info? 53).map (·.size) = some 257 := by kernel_rfl
theorem info53z : (Try.prog.info? 53).map (fun i => (i.zero, i.size)) = some (some (.agg (setC 0 none')), 257) := by kernel_rfl
section
variable {ops : Array Oper} {rest : List Oper} {o : Oper} {a : Act} {w : World} {Q : Exit → Act → World → Prop}
theorem wpList_build (hgd : o.guard = none) (t : TypeId) (ps : Array (Nat × Operand)) (ho : o.op = .build t ps) (parts : Array (Nat × Value)) (hp : (ps.map fun x => (x.1, a.eval x.2)) = parts) (C : Array Value) (hb : Try.prog.built t parts.toList = some C)
    (k : wpList Try.prog ops Q rest (a.put o.dst (.agg C)) w) : wpList Try.prog ops Q (o :: rest) a w :=
  wpList_plain hgd fun K hK => by
    subst hp
    unfold Oper.wp execOp
    simp only [ho, Sem.run_bind, run_build (P := Try.prog) w t _ C hb, Result.andThen_ok]
    exact hK _ _ k
end
set_option maxRecDepth 20000 in
theorem new_ok (n : Nat) (w : World) (h0 : 1 ≤ n) (h1 : n ≤ 2048) :
    Calls Try.prog 8 #[.int .i64 n] w fun e w' => e = .returned (.tuple #[.pointer (some ⟨w.heap.size, 0, none⟩), .int .i64 0]) ∧ SetAt w' w.heap.size n none' ∧ Below w.heap.size w w' := by
  have hbl := built_new n
  have hR := Row.new w (setC n none') 53
  have hend : Hid (SetAt (w.alloc (.cells (setC n none') 53)) w.heap.size n none') := ⟨hR, h0, h1, fun _ _ => rfl⟩
  clear hR
  generalize setC n none' = A at *
  have HB : Hid _ := hbl
  clear hbl
  go_enter Try.func8, Try.ntmps8
  go_wp2_with (first
    | refine wpList_build rfl 53 _ rfl #[(0, .int .i64 n)] (by simp only [List.map_toArray, List.map_cons, List.map_nil]; rfl) A HB.out ?_)
  go_ret2
  exact ⟨rfl, hend.out, (Below.refl _ _).alloc (Nat.le_refl _) _⟩
theorem new_bad (n : Int) (w : World) (h : n < 1 ∨ 2048 < n) : Calls Try.prog 8 #[.int .i64 n] w fun e w' => e = .returned (.tuple #[.pointer none, .int .i64 2]) ∧ w' = w := by
  by_cases h1 : n < 1
  · clear h
    go_enter Try.func8, Try.ntmps8
    go_wp2
    go_ret2
    exact ⟨rfl, rfl⟩
  · have h2 : 2048 < n := by omega
    clear h
    go_enter Try.func8, Try.ntmps8
    go_wp2
    go_ret2
    exact ⟨rfl, rfl⟩

theorem take_no (d : Value) (w : World) (h : NoSet w d) : Calls Try.prog 11 #[d] w fun e w' => e = .returned (.tuple #[.int .i64 0, .int .i64 1]) ∧ w' = w := by
  have H := made_no d w h
  clear h
  go_enter Try.func11, Try.ntmps11
  go_wp2_with fail
  refine H.mono ?_
  rintro e w' ⟨rfl, rfl⟩
  go_wp2
  go_ret2
  exact ⟨rfl, rfl⟩
theorem put_no (d k : Value) (w : World) (h : NoSet w d) : Calls Try.prog 13 #[d, k] w fun e w' => e = .returned (.int .i64 1) ∧ w' = w := by
  have H := made_no d w h
  clear h
  go_enter Try.func13, Try.ntmps13
  go_wp2_with fail
  refine H.mono ?_
  rintro e w' ⟨rfl, rfl⟩
  go_wp2
  go_ret
  exact ⟨rfl, rfl⟩
theorem drop_no (d k : Value) (w : World) (h : NoSet w d) : Calls Try.prog 15 #[d, k] w fun e w' => e = .returned (.int .i64 1) ∧ w' = w := by
  have H := made_no d w h
  clear h
  go_enter Try.func15, Try.ntmps15
  go_wp2_with fail
  refine H.mono ?_
  rintro e w' ⟨rfl, rfl⟩
  go_wp2
  go_ret
  exact ⟨rfl, rfl⟩
theorem clone_no (d : Value) (w : World) (h : NoSet w d) : Calls Try.prog 16 #[d] w fun e w' => e = .returned (.pointer none) ∧ w' = w := by
  have H := made_no d w h
  clear h
  go_enter Try.func16, Try.ntmps16
  go_wp2_with fail
  refine H.mono ?_
  rintro e w' ⟨rfl, rfl⟩
  go_wp2
  go_ret
  exact ⟨rfl, rfl⟩
theorem bytes_no (d : Value) (w : World) (h : NoSet w d) : Calls Try.prog 19 #[d] w fun e w' => e = .returned (.slice none 0 0) ∧ w' = w := by
  have H := made_no d w h
  clear h
  go_enter Try.func19, Try.ntmps19
  go_wp2_with fail
  refine H.mono ?_
  rintro e w' ⟨rfl, rfl⟩
  go_wp2
  go_ret
  exact ⟨rfl, rfl⟩
theorem count_no (d : Value) (w : World) (h : NoSet w d) : Calls Try.prog 20 #[d] w fun e w' => e = .returned (.tuple #[.int .i64 0, .int .i64 0]) ∧ w' = w := by
  have H := made_no d w h
  clear h
  go_enter Try.func20, Try.ntmps20
  go_wp2_with fail
  refine H.mono ?_
  rintro e w' ⟨rfl, rfl⟩
  go_wp2
  go_ret2
  exact ⟨rfl, rfl⟩
theorem has_no (d k : Value) (w : World) (h : NoSet w d) : Calls Try.prog 21 #[d, k] w fun e w' => e = .returned (.bool false) ∧ w' = w := by
  have H := made_no d w h
  clear h
  go_enter Try.func21, Try.ntmps21
  go_wp2_with fail
  refine H.mono ?_
  rintro e w' ⟨rfl, rfl⟩
  go_wp2
  go_ret
  exact ⟨rfl, rfl⟩
/-- Of one of two 'made' is false: both answers are compared. -/
theorem same_no (d o : Value) (w : World) (b c : Bool) (hb : Calls Try.prog 24 #[d] w fun e w' => e = .returned (.bool b) ∧ w' = w) (hc : Calls Try.prog 24 #[o] w fun e w' => e = .returned (.bool c) ∧ w' = w) (h : (b && c) = false) :
    Calls Try.prog 17 #[d, o] w fun e w' => e = .returned (.bool (b == c)) ∧ w' = w := by
  cases b with
  | false =>
    go_enter Try.func17, Try.ntmps17
    go_wp2_with fail
    refine hb.mono ?_
    rintro e w' ⟨rfl, rfl⟩
    go_wp2_with fail
    refine hb.mono ?_
    rintro e w' ⟨rfl, rfl⟩
    go_wp2_with fail
    refine hc.mono ?_
    rintro e w' ⟨rfl, rfl⟩
    go_wp2
    go_ret
    exact ⟨by cases c <;> rfl, rfl⟩
  | true =>
    obtain rfl : c = false := by simpa using h
    go_enter Try.func17, Try.ntmps17
    go_wp2_with fail
    refine hb.mono ?_
    rintro e w' ⟨rfl, rfl⟩
    go_wp2_with fail
    refine hc.mono ?_
    rintro e w' ⟨rfl, rfl⟩
    go_wp2_with fail
    refine hb.mono ?_
    rintro e w' ⟨rfl, rfl⟩
    go_wp2_with fail
    refine hc.mono ?_
    rintro e w' ⟨rfl, rfl⟩
    go_wp2
    go_ret
    exact ⟨rfl, rfl⟩
end Go.Proofs.Ythjmmlgcaigdfaa
