/- My own work: the law of Make by walk. -/
import Derived.Test.YtdgilhclhnchbaaDoorPRefM
import Derived.Test.YtdgilhclhnchbaaDoorLawS9
namespace Go.Proofs.YtdgilhclhnchbaaDoor.S2
open Go.RowKit Math

theorem makeV_pair (kind : ByteArray) (f : Nat → Int) (name : ByteArray) : ∃ P c, makeV kind f name = .tuple #[.string P, .int .i64 c] := by
  unfold makeV
  split
  · exact ⟨_, _, rfl⟩
  · exact ⟨_, _, rfl⟩
set_option maxRecDepth 20000 in
set_option maxHeartbeats 4000000 in
theorem law_makes (kind : ByteArray) (f : Nat → Int) (name : ByteArray) (w : World) (hks : kind.size ≤ 140737488355328) (hns : name.size ≤ 140737488355328) (hT : Tab w) (hF : FTab w) (hK : KTab w) (hN : NTab w) (hf : ∀ i, 0 ≤ f i ∧ f i < 256) (hf0 : ∀ i, 32 ≤ i → f i = 0) :
    Calls Tryd.prog 3 #[.string kind, .agg (arr f 32), .string name] w fun e w' => e = .returned (.bool true) ∧ Below w.heap.size w w' := by
  obtain ⟨P, c, hP⟩ := makeV_pair kind f name
  obtain ⟨A, hA⟩ : ∃ A, A = arr f 32 := ⟨_, rfl⟩
  have hAs : A.size = 32 := by rw [hA, arr_size]
  have hiA : (Tryd.prog.info? 22).map (·.size) = some A.size := by rw [hAs]; kernel_rfl
  have b0 : Below w.heap.size w (w.alloc (.cells A 22)) := (Below.refl _ _).alloc (Nat.le_refl _) _
  have hM := make_ok kind f name (w.alloc (.cells A 22)) (hT.keep b0) (hF.keep b0) (hK.keep b0) (hN.keep b0) hf hf0
  have HR := fun w1 => refMake_ok kind f name w1 hks hns hf hf0
  rw [hP, ← hA] at hM
  simp only [hP, ← hA] at HR
  rw [← hA]
  have HN : Hid (NTab w) := hN
  have HR' : Hid _ := HR
  have hrow : Row (w.alloc (.cells A 22)) w.heap.size A 22 := Row.new w A 22
  clear hA hP hT hF hK hN HR
  go_enter Tryd.func3, Tryd.ntmps3
  go_wp2_with (first | refine wpList_load_row rfl 22 _ rfl w.heap.size rfl 22 A (0, 0) _ hrow Tryd.underlying22 rfl hiA ?_ | fail)
  refine hM.mono ?_
  rintro e w1 ⟨rfl, hb1⟩
  have hrow1 : Row w1 w.heap.size A 22 := hrow.below hb1 (by simp)
  have hb01 := b0.trans (hb1.mono b0.size)
  clear hM hb1 b0 hrow
  go_wp2_with (first | refine wpList_load_row rfl 22 _ rfl w.heap.size rfl 22 A (0, 0) _ hrow1 Tryd.underlying22 rfl hiA ?_ | fail)
  refine (HR'.out w1).mono ?_
  rintro e w2 ⟨rfl, hb2⟩
  have hb02 := hb01.trans (hb2.mono hb01.size)
  have hNm := name_ok name w2 (NTab.keep HN.out hb02)
  obtain ⟨nb, hnb⟩ : ∃ nb, nameB (bl name) = nb := ⟨_, rfl⟩
  rw [hnb] at hNm
  clear hb2 hb01 hrow1
  go_wp2_with fail
  refine hNm.mono ?_
  rintro e w3 ⟨rfl, hb3⟩
  have hb03 := hb02.trans (hb3.mono hb02.size)
  have hRn := refName_ok name w3 hns
  rw [hnb] at hRn
  clear hb3 hb02 hNm hnb
  go_wp2_with fail
  refine hRn.mono ?_
  rintro e w4 ⟨rfl, hw4⟩
  rw [hw4]
  clear hw4 hRn w4
  go_wp2_with (go_at_call 11; refine (names_ok _).mono ?_; rintro e w4 ⟨rfl, rfl⟩)
  go_ret
  exact ⟨rfl, hb03⟩
end Go.Proofs.YtdgilhclhnchbaaDoor.S2
