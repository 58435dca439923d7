/- My own work: pieceText. -/
import Derived.Test.YtdhmlcelofnkgaaDoorTB2a
import Derived.Test.YtdhmlcelofnkgaaDoorTB2b
import Derived.Test.YtdhmlcelofnkgaaDoorTB2c
import Derived.Test.YtdhmlcelofnkgaaDoorTB2d
namespace Go.Proofs.YtdhmlcelofnkgaaDoor
open Go.RowKit Go.Shelf

theorem side_may {c : Cut} (h : CutOk c) : (¬ c.side = 1 ∧ ¬ c.side = 2) ∨ ((c.side = 1 ∨ c.side = 2) ∧ May c.v) := by
  rcases h with ⟨h0, _⟩ | ⟨h3, _⟩ | ⟨h12, hm⟩
  · exact Or.inl ⟨by omega, by omega⟩
  · exact Or.inl ⟨by omega, by omega⟩
  · exact Or.inr ⟨h12, hm⟩
theorem lowT_1 {c : Cut} (h : c.side = 1) : lowT c = [[62, 61] ++ textV c.v] := by unfold lowT; rw [if_pos h]
theorem lowT_2 {c : Cut} (h : c.side = 2) : lowT c = [[62] ++ textV c.v] := by unfold lowT; rw [if_neg (by omega), if_pos h]
theorem lowT_n {c : Cut} (h : ¬ c.side = 1) (k : ¬ c.side = 2) : lowT c = [] := by unfold lowT; rw [if_neg h, if_neg k]
theorem uppT_1 {c : Cut} (h : c.side = 1) : uppT c = [[60] ++ textV c.v] := by unfold uppT; rw [if_pos h]
theorem uppT_2 {c : Cut} (h : c.side = 2) : uppT c = [[60, 61] ++ textV c.v] := by unfold uppT; rw [if_neg (by omega), if_pos h]
theorem uppT_n {c : Cut} (h : ¬ c.side = 1) (k : ¬ c.side = 2) : uppT c = [] := by unfold uppT; rw [if_neg h, if_neg k]
/-- A piece's text. -/
theorem pieceText_ok {a b : Cut} (ha : CutOk a) (hb : CutOk b) (w : World) (hT : Pw w) : Calls Tryd.prog 25 #[cutV a, cutV b] w fun e w' => e = .returned (.string (tx (pieceT a b))) ∧ Below w.heap.size w w' := by
  unfold pieceT
  rcases side_may ha with ⟨a1, a2⟩ | ⟨a1 | a2, am⟩
  · have he : ¬ a = ⟨1, b.v⟩ := fun e => a1 (by rw [e])
    rw [if_neg (fun h => he h.1), lowT_n a1 a2]
    rcases side_may hb with ⟨b1, b2⟩ | ⟨b1 | b2, bm⟩
    · rw [uppT_n b1 b2, List.append_nil, if_pos rfl]
      exact piece_nnf w hT a1 a2 b1 b2
    · rw [uppT_1 b1, if_neg (by simp)]
      exact piece_n1f w hT a1 a2 b1 bm
    · rw [uppT_2 b2, if_neg (by simp)]
      exact piece_n2f w hT a1 a2 b2 bm
  · rw [lowT_1 a1]
    by_cases he : a = ⟨1, b.v⟩
    · rcases side_may hb with ⟨b1, b2⟩ | ⟨b1 | b2, bm⟩
      · rw [if_neg (fun h => b2 h.2), uppT_n b1 b2, if_neg (by simp)]
        exact piece_1nt w hT a1 am b1 b2 he
      · rw [if_neg (fun h => by rw [h.2] at b1; exact absurd b1 (by decide)), uppT_1 b1, if_neg (by simp)]
        exact piece_11t w hT a1 am b1 bm he
      · rw [if_pos ⟨he, b2⟩]
        exact piece_12t w hT a1 am b2 bm he
    · rw [if_neg (fun h => he h.1)]
      rcases side_may hb with ⟨b1, b2⟩ | ⟨b1 | b2, bm⟩
      · rw [uppT_n b1 b2, if_neg (by simp)]
        exact piece_1nf w hT a1 am b1 b2 he
      · rw [uppT_1 b1, if_neg (by simp)]
        exact piece_11f w hT a1 am b1 bm he
      · rw [uppT_2 b2, if_neg (by simp)]
        exact piece_12f w hT a1 am b2 bm he
  · have he : ¬ a = ⟨1, b.v⟩ := fun e => by rw [e] at a2; exact absurd (show (1 : Int) = 2 from a2) (by decide)
    rw [if_neg (fun h => he h.1), lowT_2 a2]
    rcases side_may hb with ⟨b1, b2⟩ | ⟨b1 | b2, bm⟩
    · rw [uppT_n b1 b2, if_neg (by simp)]
      exact piece_2nf w hT a2 am b1 b2
    · rw [uppT_1 b1, if_neg (by simp)]
      exact piece_21f w hT a2 am b1 bm
    · rw [uppT_2 b2, if_neg (by simp)]
      exact piece_22f w hT a2 am b2 bm
end Go.Proofs.YtdhmlcelofnkgaaDoor
