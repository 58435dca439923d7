/- The walk of digest.Distinct: the digests' keys in a set. -/
import Derived.Test.YtihemceilmcekaaDoorKit
import Derived.Test.YtihemceilmcekaaDoorQuiet
import Derived.Maps.OwnSet
import Derived.Maps.Views
import Derived.DeepKeys4
import Derived.MapViews
namespace Go.Proofs.YtihemceilmcekaaDoor
open Go.RowKit Go.Maps

theorem row24 : (24 : TypeId) < Tryd.prog.types.size := of_decide_eq_true (by kernel_rfl)
theorem wide24 : (match Tryd.prog.underlying 24 with | some (.array _ _) | some (.struct _) => true | _ => false) = true := by rw [Tryd.underlying24]
theorem law24 : Keyed Tryd.prog 24 := Keyed.of_law (deep_law_laid laidOut (m := 2) (by omega) row24 (by kernel_rfl) wide24)

/-- The elements of a slice of digests lie in memory. -/
structure Ds (w : World) (a : Option Addr) (b off len : Nat) (g : Nat → Nat → Int) : Prop where
  at' : 0 < len → a = some ⟨b, off, none⟩
  range : ∀ i, i < len → w.rangeAt b (off + i * 32) (arr (g i) 32).toList

set_option maxHeartbeats 1000000 in
theorem distinct_any (a : Option Addr) (b off len cap : Nat) (g : Nat → Nat → Int) (kl : Nat → Lit) (w : World) (hlen : len ≤ 4398046511104) (hD : Ds w a b off len g) (hkl : ∀ i, i < len → keyOf Tryd.prog 24 (.agg (arr (g i) 32)) = some (kl i)) :
    Calls Tryd.prog 16 #[.slice a len cap] w fun e w' => e = .returned (.int .i64 (Maps.size (setOf (H := Unit) (.agg []) ((List.range len).map kl)))) ∧ Below w.heap.size w w' := by
  have hmm := @run_makeMap Tryd.prog
  have HD : Hid _ := hD
  have HK : Hid _ := hkl
  clear hD hkl
  go_enter Tryd.func16, Tryd.ntmps16
  go_wp2
  go_loopw [9] (fun i wr => ∃ k : Nat, k ≤ len ∧ i = .int .i64 k ∧ wr.ownsMap Tryd.prog 24 (unitElem (H := Unit)) w.heap.size k (setOf (.agg []) ((List.range k).map kl)) ∧ Below w.heap.size w wr) (fun i _ => len - (intOf i).toNat)
  case atStart => exact ⟨0, Nat.zero_le _, rfl, World.ownsMap_made _ _ _ _, (Below.refl _ _).alloc (Nat.le_refl _) _⟩
  case round =>
    obtain ⟨k, hk, rfl, hown, hb⟩ := hrel
    by_cases hlt : k < len
    · obtain rfl := HD.out.at' (by omega)
      have hkey := HK.out k hlt
      have hr : wr.rangeAt b (off + k * 32) (arr (g k) 32).toList := fun x v hv => by
        have hc := HD.out.range k hlt x v hv
        rw [hb.cell (p := ⟨b, off + k * 32 + x, none⟩) (World.block_lt_of_cell? _ _ hc)]; exact hc
      have hone := arr_one (g k) 32
      have hs := arr_size (g k) 32
      generalize arr (g k) 32 = A at *
      have hi : (Tryd.prog.info? 24).map (·.size) = some A.size := by rw [hs]; exact info24
      have hi' : (Tryd.prog.info? 24).map (·.size) = some A.toList.length := by rw [Array.length_toList]; exact hi
      have hsz := hb.size
      have hk63 : k < maxLen := by unfold maxLen; omega
      have hnew := Row.new wr A 24
      have HR : Hid _ := hr
      clear hr
      go_wp2_with (first
        | (refine wpList_load_mid rfl 24 _ rfl b (off + k * 32) rfl A.toList _ HR.out Tryd.underlying24 rfl hi' ?_; simp only [Array.toArray_toList])
        | refine wpList_store_new rfl 24 _ _ rfl wr zeros32 A 24 rfl wr.heap.size rfl rfl rfl hi (show zeros32.size = A.size from hs.symm) hone ?_
        | refine wpList_load_row rfl 24 _ rfl wr.heap.size rfl 24 A (0, 0) _ hnew Tryd.underlying24 rfl hi ?_
        | (at_mapUpdate; refine wpList_mapUpdate_own _ rfl _ _ _ 63 rfl 24 64 law24 Tryd.underlying63 (unitElem (H := Unit)) w.heap.size k _ rfl (hown.alloc _) hk63 _ _ _ rfl rfl hkey _ [] unitElem_mk ?_; intro w1 hown1 hgrow1))
      go_roundw
      case rel =>
        refine ⟨k + 1, by omega, by go_num, ?_, ?_⟩
        · rw [List.range_succ, List.map_append, List.map_cons, List.map_nil, setOf_snoc]
          exact hown1
        · exact (hb.alloc hsz _).grown hgrow1 (by simp; omega) (fun j hj => by cases hj; exact Nat.le_refl _)
      case measure => simp [intOf]; omega
    · obtain rfl : k = len := by omega
      go_wp2_with (at_len; refine wpList_len_own _ rfl _ 63 rfl 24 64 Tryd.underlying63 _ w.heap.size k _ rfl hown ?_)
      go_ret
      exact ⟨rfl, hb⟩
end Go.Proofs.YtihemceilmcekaaDoor
