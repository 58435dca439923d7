/- The walks of entries, rightNames and rightAlone: what is wrong with one node by itself. -/
import Derived.Test.YtpkbfljoakodoaaDoorSizes
import Derived.Test.YtpkbfljoakodoaaDoorXE
namespace Go.Proofs.YtpkbfljoakodoaaDoor
open Go.RowKit

set_option maxRecDepth 20000 in
set_option maxHeartbeats 2000000 in
theorem entries_ok (n : Nd) (w : World) (C : Array Value) (h : NodeAt w n C) (hb : entN n.names ≤ 4611686018427387904) : Calls Tryd.prog 43 #[.agg C] w fun e w' => e = .returned (.int .i64 ((entN n.names : Nat) : Int)) ∧ Below w.heap.size w w' := by
  cases h with
  | @mk k e dt ns ks da dc na nc ka kb koff kc Cs hk hdt hn hks each =>
  have hb0 : Below w.heap.size w (w.alloc (.cells (nodeV k e da dt.size dc na ns.length nc ka ks.length kc) 26)) := (Below.refl _ _).alloc (Nat.le_refl _) _
  have hR := Row.new w (nodeV k e da dt.size dc na ns.length nc ka ks.length kc) 26
  have HR : Hid _ := hR
  obtain ⟨b, off, hat, hcell⟩ := hn.at''
  have HCE : Hid _ := hcell
  have hcap := hn.cap
  have hle := hn.le
  unfold maxLen at hcap
  simp only [Nd.names] at hb ⊢
  clear hdt hn hks each hk hcell hR
  go_enter Tryd.func43, Tryd.ntmps43
  go_wp2
  generalize hwB : w.alloc (.cells (nodeV k e da dt.size dc na ns.length nc ka ks.length kc) 26) = wB at *
  go_loopw [3, 4] (fun sv iv wx => ∃ i : Nat, sv = .int .i64 ((entN (ns.take i) : Nat) : Int) ∧ iv = .int .i64 i ∧ i ≤ ns.length ∧ Hid (Below wB.heap.size wB wx)) (fun _ iv _ => ns.length - (intOf iv).toNat)
  case atStart => exact ⟨0, by simp [entN], rfl, Nat.zero_le _, Below.refl _ _⟩
  case round =>
    obtain ⟨i, rfl, rfl, hi, hB⟩ := hrel
    have c3 := ((Row.below HR.out hB.out (Row.lt HR.out)).cell 3).trans (rfl : _ = some (Value.slice na ns.length nc))
    have hBw : Hid (Below w.heap.size w wr) := hb0.trans (hB.out.mono hb0.size)
    by_cases hlt : i < ns.length
    · have hlt' : (i : Int) < (ns.length : Int) := by omega
      obtain rfl := hat (by omega)
      have c1 := HCE.out wr hBw.out i hlt
      have e1 := entN_take ns i hlt
      have e2 := entN_le ns (i + 1)
      obtain ⟨t, ht⟩ : ∃ t, t = ns[i] := ⟨_, rfl⟩
      rw [← ht] at c1 e1
      obtain ⟨x, hx⟩ : ∃ x, x = entN (ns.take i) := ⟨_, rfl⟩
      have e3 : entN (ns.take (i + 1)) = x + t.size + 3 := by omega
      have e4 : x + t.size + 3 ≤ 4611686018427387904 := by omega
      rw [← hx]
      have HE3 : Hid _ := e3
      clear ht hx e1 e2 e3
      go_wp2
      go_roundw
      case rel => exact ⟨i + 1, by rw [show entN (ns.take (i + 1)) = _ from HE3.out]; go_num, by go_num, by omega, hB⟩
      case measure => simp [intOf]; omega
    · have hlt' : ¬ (i : Int) < (ns.length : Int) := by omega
      obtain rfl : i = ns.length := by omega
      have e1 : entN (ns.take ns.length) = entN ns := by rw [List.take_length]
      rw [e1]
      go_wp2
      go_ret
      exact ⟨rfl, hBw.out⟩

/-- One text is at or ahead of another one. -/
def sLe (a b : ByteArray) : Bool := Op.bytesLess a.toList b.toList || a.toList == b.toList
/-- Is what stands there a name, behind the one ahead of it? -/
def nmOk (ns : List ByteArray) (i : Nat) : Bool := nameB (ns.getD i ⟨#[]⟩) && (decide (i = 0) || !sLe (ns.getD i ⟨#[]⟩) (ns.getD (i - 1) ⟨#[]⟩))
def namesB (ns : List ByteArray) : Bool := (List.range ns.length).all fun i => nmOk ns i
theorem namesB_no (ns : List ByteArray) (k : Nat) (h : k < ns.length) (hb : nmOk ns k = false) : namesB ns = false := by
  unfold namesB
  rw [List.all_eq_false]
  exact ⟨k, List.mem_range.2 h, by simp [hb]⟩
theorem namesB_yes (ns : List ByteArray) (h : ∀ k, k < ns.length → nmOk ns k = true) : namesB ns = true := by
  unfold namesB
  rw [List.all_eq_true]
  exact fun k hk => h k (List.mem_range.1 hk)
theorem getD_at (ns : List ByteArray) (i : Nat) (h : i < ns.length) : ns.getD i ⟨#[]⟩ = ns[i] := by simp [List.getD, List.getElem?_eq_getElem h]

set_option maxRecDepth 20000 in
set_option maxHeartbeats 2000000 in
theorem rightNames_ok (ns : List ByteArray) (na : Option Addr) (nc : Nat) (w : World) (hn : StrsAt w na ns nc) : Calls Tryd.prog 85 #[.slice na ns.length nc] w fun e w' => e = .returned (.bool (namesB ns)) ∧ Below w.heap.size w w' := by
  obtain ⟨b, off, hat, hcell⟩ := hn.at''
  have HCE : Hid _ := hcell
  have hcap := hn.cap
  have hle := hn.le
  unfold maxLen at hcap
  clear hn hcell
  go_enter Tryd.func85, Tryd.ntmps85
  go_wp2
  go_loopw [7] (fun iv wx => ∃ i : Nat, iv = .int .i64 i ∧ i ≤ ns.length ∧ Hid (∀ j, j < i → nmOk ns j = true) ∧ Hid (Below w.heap.size w wx)) (fun iv _ => ns.length - (intOf iv).toNat)
  case atStart => exact ⟨0, rfl, Nat.zero_le _, fun j hj => absurd hj (by omega), Below.refl _ _⟩
  case round =>
    obtain ⟨i, rfl, hi, hok, hB⟩ := hrel
    by_cases hlt : i < ns.length
    · have hlt' : (i : Int) < (ns.length : Int) := by omega
      obtain rfl := hat (by omega)
      have c1 := HCE.out wr hB.out i hlt
      have hg1 := getD_at ns i hlt
      obtain ⟨t, ht⟩ : ∃ t, t = ns[i] := ⟨_, rfl⟩
      rw [← ht] at c1 hg1
      have HIN : Hid _ := isName_ok t wr
      have HNO : Hid (nmOk ns i = false → namesB ns = false) := namesB_no ns i hlt
      have HG1 : Hid _ := hg1
      clear ht hg1
      obtain ⟨nb, hnb⟩ : ∃ nb, nb = nameB t := ⟨_, rfl⟩
      rw [← hnb] at HIN
      have HNB : Hid _ := hnb
      clear hnb
      go_wp2_with fail
      refine Calls.mono HIN.out ?_
      rintro e w2 ⟨rfl, hb2⟩
      have hB2 : Hid (Below w.heap.size w w2) := hB.out.trans (hb2.mono hB.out.size)
      clear HIN hb2 c1
      cases nb with
      | false =>
        have HN : Hid (namesB ns = false) := HNO.out (by unfold nmOk; rw [show ns.getD i ⟨#[]⟩ = t from HG1.out, ← show false = nameB t from HNB.out]; rfl)
        clear hok HNO HG1 HNB
        go_wp2
        go_ret
        exact ⟨by rw [show namesB ns = false from HN.out] <;> rfl, hB2.out⟩
      | true =>
        by_cases hi0 : i = 0
        · subst hi0
          have hok' : Hid (∀ j, j < 0 + 1 → nmOk ns j = true) := fun j hj => by
            obtain rfl : j = 0 := by omega
            unfold nmOk
            rw [show ns.getD 0 ⟨#[]⟩ = t from HG1.out, ← show true = nameB t from HNB.out]
            rfl
          clear hok HNO HG1 HNB
          go_wp2
          go_roundw
          case rel => exact ⟨0 + 1, by go_num, by omega, hok', hB2⟩
          case measure => simp [intOf]; omega
        · have hi0' : (0 : Int) < i := by omega
          have c2 := HCE.out w2 hB2.out (i - 1) (by omega)
          have hg2 := getD_at ns (i - 1) (by omega)
          have ei : ((i - 1 : Nat) : Int) = (i : Int) - 1 := by omega
          obtain ⟨p, hp⟩ : ∃ p, p = ns[i - 1] := ⟨_, rfl⟩
          rw [← hp] at c2 hg2
          have HG2 : Hid _ := hg2
          obtain ⟨q, hq⟩ : ∃ q, q = off + (i - 1) := ⟨_, rfl⟩
          have hnm : nmOk ns i = !sLe t p := by
            unfold nmOk
            rw [show ns.getD i ⟨#[]⟩ = t from HG1.out, show ns.getD (i - 1) ⟨#[]⟩ = p from HG2.out, ← show true = nameB t from HNB.out, decide_eq_false hi0]
            simp
          obtain ⟨le, hle'⟩ : ∃ le, (Op.bytesLess t.toList p.toList || t.toList == p.toList) = le := ⟨_, rfl⟩
          have hnm' : nmOk ns i = !le := by rw [hnm]; unfold sLe; rw [hle']
          have HNM : Hid _ := hnm'
          have ek : (off : Int) + ((i : Int) - 1) = ((off + (i - 1) : Nat) : Int) := by omega
          clear hp hg2 hnm hnm' HG1 HG2 HNB hq
          cases le with
          | true =>
            have HN : Hid (namesB ns = false) := HNO.out (by rw [show nmOk ns i = _ from HNM.out]; rfl)
            clear hok HNO HNM
            go_wp2
            go_ret
            exact ⟨by rw [show namesB ns = false from HN.out] <;> rfl, hB2.out⟩
          | false =>
            have hok' : Hid (∀ j, j < i + 1 → nmOk ns j = true) := fun j hj => by
              by_cases e : j = i
              · subst e
                rw [show nmOk ns j = _ from HNM.out]
                rfl
              · exact hok.out j (by omega)
            clear hok HNO HNM
            go_wp2
            clear hle' ei ek
            go_roundw
            case rel => exact ⟨i + 1, by go_num, by omega, hok', hB2⟩
            case measure => simp [intOf]; omega
    · have hlt' : ¬ (i : Int) < (ns.length : Int) := by omega
      have hks : i = ns.length := by omega
      have HN : Hid (namesB ns = true) := namesB_yes ns (by rw [← hks]; exact hok.out)
      clear hok hks
      go_wp2
      go_ret
      exact ⟨by rw [show namesB ns = true from HN.out] <;> rfl, hB.out⟩
end Go.Proofs.YtpkbfljoakodoaaDoor
