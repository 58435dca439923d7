/- My own work: what is made is split; the law of both by walk. -/
import Derived.Test.YtdgilhclhnchbaaDoorLawM9
namespace Go.Proofs.YtdgilhclhnchbaaDoor.S2
open Go.RowKit Math

theorem cat_bl (a b : ByteArray) : bl (a ++ b) = bl a ++ bl b := by simp [bl, ByteArray.data_append]
theorem sgU_sg (v : Nat) (hv : v < 32) : isSg (UInt8.ofNat (sg v).toNat) = true := by
  have b := sg_lt v
  refine isSg_yes hv ?_
  rw [UInt8.toNat_ofNat_of_lt' (by simp; omega)]
  omega
theorem enc_signs (f : Nat → Int) (N : Nat) : signsB (bl (strOfNums (enc (bitAt 8 f) N))) = true := by
  unfold signsB
  rw [List.all_eq_true]
  intro x hx
  have e : bl (strOfNums (enc (bitAt 8 f) N)) = (enc (bitAt 8 f) N).map fun n => UInt8.ofNat n.toNat := strOfNums_data _
  rw [e] at hx
  obtain ⟨n, hn, rfl⟩ := List.mem_map.1 hx
  unfold enc at hn
  obtain ⟨j, _, rfl⟩ := List.mem_map.1 hn
  have hb := val_bd (bitAt 8 f) (bitAt_bd 8 f) (5 * j) 5
  exact sgU_sg _ (by omega)
theorem signE_size (kind : ByteArray) (f : Nat → Int) (name : ByteArray) : (signE' kind f name).size = 32 := by
  unfold signE'
  rw [strOfNums_size]
  simp [enc]
theorem path_size (kind : ByteArray) (f : Nat → Int) (name : ByteArray) : (pathE kind f name).size = 40 + name.size := by
  unfold pathE
  have e1 : (⟨#[45]⟩ : ByteArray).size = 1 := rfl
  have e2 : (⟨#[47, 115, 116, 111, 114, 101, 47]⟩ : ByteArray).size = 7 := rfl
  simp only [cat_size, signE_size, e1, e2]
theorem path_bl (kind : ByteArray) (f : Nat → Int) (name : ByteArray) : bl (pathE kind f name) = [47, 115, 116, 111, 114, 101, 47] ++ (bl (signE' kind f name) ++ (45 :: bl name)) := by
  unfold pathE
  rw [cat_bl, cat_bl, cat_bl]
  show [47, 115, 116, 111, 114, 101, 47] ++ bl (signE' kind f name) ++ [45] ++ bl name = _
  simp
theorem drop_len {a b : List UInt8} {n : Nat} (h : a.length = n) : (a ++ b).drop n = b := by rw [← h, List.drop_left]
theorem take_len {a b : List UInt8} {n : Nat} (h : a.length = n) : (a ++ b).take n = a := by rw [← h, List.take_left]
theorem path_parts (kind : ByteArray) (f : Nat → Int) (name : ByteArray) : (bl (pathE kind f name)).take 7 = bl STORE ∧ ((bl (pathE kind f name)).drop 7).take 32 = bl (signE' kind f name) ∧ (bl (pathE kind f name)).drop 39 = 45 :: bl name ∧ (bl (pathE kind f name)).drop 40 = bl name := by
  have hl : (bl (signE' kind f name)).length = 32 := by rw [bl_len, signE_size]
  have e := path_bl kind f name
  have d7 : (bl (pathE kind f name)).drop 7 = bl (signE' kind f name) ++ (45 :: bl name) := by rw [e]; exact drop_len rfl
  have d39 : (bl (pathE kind f name)).drop 39 = 45 :: bl name := by
    rw [show 39 = 7 + 32 from rfl, ← List.drop_drop, d7]
    exact drop_len hl
  refine ⟨by rw [e]; exact take_len rfl, by rw [d7]; exact take_len hl, d39, ?_⟩
  rw [show 40 = 39 + 1 from rfl, ← List.drop_drop, d39]
  rfl
/-- What is made is a path. -/
theorem path_split {kind : ByteArray} (f : Nat → Int) {name : ByteArray} (h : mayB kind name = true) : splitB (bl (pathE kind f name)) = true := by
  obtain ⟨p1, p2, p3, p4⟩ := path_parts kind f name
  have hn : nameB (bl name) = true := by unfold mayB at h; rw [Bool.and_eq_true] at h; exact h.1
  unfold splitB
  rw [p2, p3, p4, hn, show signsB (bl (signE' kind f name)) = true from enc_signs _ _, decide_eq_true (by rw [bl_len, path_size]; omega)]
  unfold preB
  rw [show (bl STORE).length = 7 from rfl, p1]
  simp
theorem path_signs (kind : ByteArray) (f : Nat → Int) (name : ByteArray) : (pathE kind f name).extract 7 39 = signE' kind f name := by
  apply bl_inj
  rw [bl_ex, ← (path_parts kind f name).2.1, List.drop_take]
theorem path_name (kind : ByteArray) (f : Nat → Int) (name : ByteArray) : (pathE kind f name).extract 40 (pathE kind f name).size = name := by
  apply bl_inj
  rw [ex_all, (path_parts kind f name).2.2.2]
theorem path_base (kind : ByteArray) (f : Nat → Int) (name : ByteArray) (h : mayB kind name = true) : baseE (pathE kind f name) = signE' kind f name ++ ⟨#[45]⟩ ++ name := by
  have hs := path_split f h
  unfold baseE
  rw [hs]
  show (pathE kind f name).extract 7 (pathE kind f name).size = _
  rw [← base_cat hs, path_signs, path_name]
theorem empty_base : baseE ⟨#[]⟩ = ⟨#[]⟩ := by
  unfold baseE
  rw [splitB_short (by decide)]
  rfl
end Go.Proofs.YtdgilhclhnchbaaDoor.S2
