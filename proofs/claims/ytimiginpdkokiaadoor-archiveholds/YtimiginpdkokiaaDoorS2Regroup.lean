/- The walk of bits.regroup: the bits of groups of one width told as groups of another, in new memory. -/
import Derived.Test.YtimiginpdkokiaaDoorRows
import Derived.Test.YtimiginpdkokiaaDoorS2Math
import Derived.WalkKit
import Derived.WalkSpells
import Derived.WalkLawsBesides
import Derived.Deep.OwnRows
import Derived.Deep.DeepAppendWide
namespace Go.Proofs.YtimiginpdkokiaaDoor.S2
set_option maxRecDepth 20000
open Go.RowKit Math
theorem Tryd.info5 : (Tryd.prog.info? 5).map (fun i => (i.zero, i.size, i.bytes)) = some (some (.int .u8 0), 1, 1) := by kernel_rfl

/-- The groups of t bits that are told so far. -/
def row (g : Nat → Int) (t q : Nat) : List Value := (List.range q).map fun p => .int .u8 (val g (t * p) t)

theorem row_succ (g : Nat → Int) (t q : Nat) : row g t (q + 1) = row g t q ++ [.int .u8 (val g (t * q) t)] := by
  simp [row, List.range_succ]

/-- A group is full: one more is told. -/
theorem app_step {w wr w1 : World} {g : Nat → Int} {t fr k j q n : Nat} {x y : Int} {v v' : Value} {c : Value} (hm : fr * k + j = t * q + n) (hn : n + 1 = t) (hx : x = val g (t * q) n) (hG : g (t * q + n) = y)
    (hown : wr.ownsRow w.heap.size 5 1 v q (row g t q)) (hown' : w1.ownsRow w.heap.size 5 1 v' (q + 1) (row g t q ++ [.int .u8 (x * 2 + y)])) (hgrow : (wr.alloc (.cells #[c] 5)).grownBy w1 v.ownBlock) (hb : Below w.heap.size w wr) :
    Hid (fr * k + (j + 1) = t * (q + 1) + 0) ∧ w1.ownsRow w.heap.size 5 1 v' (q + 1) (row g t (q + 1)) ∧ Below w.heap.size w w1 := by
  refine ⟨?_, ?_, ?_⟩
  · show fr * k + (j + 1) = t * (q + 1) + 0
    rw [Nat.mul_add]; omega
  · rw [row_succ, ← hn]
    simp only [val]
    rw [hn, ← hx, hG]
    exact hown'
  · have hsz := hb.size
    refine (hb.alloc hsz _).grown hgrow (by simp; omega) (fun r hr => ?_)
    obtain ⟨_, ⟨rfl, _⟩ | ⟨g', cap, cur, rfl, hle, _⟩⟩ := hown
    · cases hr
    · simp [Value.ownBlock] at hr; omega

end Go.Proofs.YtimiginpdkokiaaDoor.S2
