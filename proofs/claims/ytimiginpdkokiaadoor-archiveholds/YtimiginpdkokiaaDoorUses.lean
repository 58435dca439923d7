/- My own work: what the laws' walks take from Encode's, Decode's and Same's contracts. -/
import Derived.Test.YtimiginpdkokiaaDoorRd11
import Derived.Test.YtimiginpdkokiaaDoorSame
import Derived.Test.YtimiginpdkokiaaDoorEncA
import Derived.Test.YtimiginpdkokiaaDoorRoom
namespace Go.Proofs.YtimiginpdkokiaaDoor
open Go.RowKit

theorem sameN_refl (n : Nd) : sameN n n = true := (sameN_iff n n).2 rfl
theorem inB_buf {w : World} {B : Nat} {a : Option Addr} {c : Nat} {X : List UInt8} (h : Buf w B (.slice a X.length c) X) : ∃ b, InB w a b 0 X c ∧ (0 < X.length → B ≤ b) := by
  obtain ⟨b, h1, h2, h3, h5, h6, h7⟩ := own_parts h
  refine ⟨b, ⟨h1, fun i hi => ?_, h5, by unfold maxLen at h6; omega⟩, fun h => (h7 h).1⟩
  rw [Nat.zero_add, h2 i (by omega) (by omega)]
  unfold u8s fU
  rw [List.getElem?_map, List.getElem?_eq_getElem hi]
  rfl
theorem inB_bytes {w : World} {a : Option Addr} {d : ByteArray} {c : Nat} (h : BytesAt w a d c) : ∃ b off, InB w a b off d.data.toList c := by
  obtain ⟨b, off, h1, h2⟩ := h.ex
  have hl : d.data.toList.length = d.size := by rw [Array.length_toList]; rfl
  refine ⟨b, off, ⟨fun h0 => h1 (by omega), fun i hi => ?_, by have := h.le; omega, by have := h.cap; unfold maxLen at this; omega⟩⟩
  rw [h2 i (by omega)]
  unfold bf fU
  rw [Array.getElem?_toList]
/-- What Encode tells, taken apart. -/
theorem encOut {n : Nd} {w w' : World} {e : Ending} (h : EncPost n w e w') : Below w.heap.size w w' ∧ ((rightE n ≠ 0 ∧ e = .returned (.tuple #[.slice none 0 0, .int .i64 (rightE n)])) ∨ (rightE n = 0 ∧ ∃ a c, e = .returned (.tuple #[.slice a (encA n).length c, .int .i64 0]) ∧ Buf w' w.heap.size (.slice a (encA n).length c) (encA n))) := by
  obtain ⟨hb, h | ⟨hz, v, rfl, hv⟩⟩ := h
  · exact ⟨hb, .inl h⟩
  · obtain ⟨a, c, rfl⟩ := own_slice hv
    exact ⟨hb, .inr ⟨hz, a, c, rfl, hv⟩⟩
/-- What Decode tells of an archive that is not too long. -/
theorem decGood {n : Nd} (h0 : rightE n = 0) (hl : (encA n).length ≤ 1048576) {w w' : World} {r : Ending} (h : DecPost (encA n) w r w') : Below w.heap.size w w' ∧ ∃ C, r = .returned (.tuple #[.agg C, .int .i64 0]) ∧ NodeOn w' (fun b => w.heap.size ≤ b ∧ b < w'.heap.size) n C := by
  obtain ⟨hb, h⟩ := h
  rw [dec_complete h0 hl] at h
  exact ⟨hb, h⟩
/-- What Decode tells of any bytes. -/
theorem decAny {X : List UInt8} {w w' : World} {r : Ending} (h : DecPost X w r w') : Below w.heap.size w w' ∧ ((∃ e, e ≠ 0 ∧ r = .returned (.tuple #[.agg node0, .int .i64 e])) ∨ ∃ n C, X = encA n ∧ rightE n = 0 ∧ (encA n).length ≤ 1048576 ∧ r = .returned (.tuple #[.agg C, .int .i64 0]) ∧ NodeOn w' (fun b => w.heap.size ≤ b ∧ b < w'.heap.size) n C) := by
  obtain ⟨hb, h⟩ := h
  cases hd : decF (fU X) X.length with
  | error e => rw [hd] at h; exact ⟨hb, .inl ⟨e, h⟩⟩
  | ok n =>
    rw [hd] at h
    obtain ⟨C, h1, h2⟩ := h
    obtain ⟨e1, e2⟩ := dec_sound hd
    refine ⟨hb, .inr ⟨n, C, e1, e2, ?_, h1, h2⟩⟩
    rw [← e1]
    unfold decF at hd
    split at hd
    · cases hd
    · omega
theorem node0_at (w : World) (k : Int) (hk : -9223372036854775808 ≤ k ∧ k ≤ 9223372036854775807) : NodeAt w (.mk k false ⟨#[]⟩ [] []) (nodeV k false none 0 0 none 0 0 none 0 0) :=
  .mk (d := ⟨#[]⟩) (ns := []) (ks := []) (kb := 0) (koff := 0) (Cs := fun _ => #[]) hk ⟨⟨0, 0, fun h => absurd h (by simp [ByteArray.size]), fun i hi => absurd hi (by simp [ByteArray.size])⟩, fun _ => ⟨rfl, rfl⟩, Nat.le_refl _, by unfold maxLen; omega, by unfold big; exact Nat.zero_le _⟩
    ⟨⟨0, 0, fun h => absurd h (by simp), fun i hi => absurd hi (by simp)⟩, fun _ => ⟨rfl, rfl⟩, Nat.le_refl _, by unfold maxLen; omega, by unfold big; exact Nat.zero_le _, fun s hs => by cases hs⟩
    ⟨fun h => absurd h (by simp), fun i hi => absurd hi (by simp), fun i hi => absurd hi (by simp), fun _ => ⟨rfl, rfl⟩, Nat.le_refl _, by unfold maxLen; omega⟩ (fun i hi => absurd hi (by simp))
abbrev nd2 : Nd := .mk 2 false ⟨#[]⟩ [] []
theorem nd2_right : rightE nd2 = 0 := by decide +kernel
theorem nd2_len : (encA nd2).length = 96 := by decide +kernel
theorem nd2_count : nd2.count ≤ 16000 := by decide +kernel
/-- A whole node is loaded in a statement whose order is not drawn, behind a guard that stands. -/
theorem load_want {P : Program} {ops : Array Oper} {rest : List Oper} {o : Oper} {a : Act} {Q : Exit → Act → World → Prop} {w : World} (hw : Region.wanted o (yielded ops a.tmps) = true) (ty : TypeId) (x : Operand) (ho : o.op = .load ty x)
    (g : Nat) (hx : a.eval x = .pointer (some ⟨g, 0, none⟩)) (t : TypeId) (cs : Array Value) (d : TypeDesc) (hg : Row w g cs t)
    (hu : P.underlying ty = some d) (hd : (match d with | .struct _ | .array _ _ => true | _ => false) = true) (hi : (P.info? ty).map (·.size) = some cs.size)
    (h : wpList P ops Q rest (a.put o.dst (.agg cs)) w) : wpList P ops Q (o :: rest) a w := by
  unfold wpList
  rw [if_pos hw]
  exact .inl (wp_load_row ty x ho g hx t cs (0, 0) d hg hu hd hi h)
end Go.Proofs.YtimiginpdkokiaaDoor
