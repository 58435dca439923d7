/- My own work: strings.IndexAny of the ten digits in any text. -/
import Derived.Test.YtkbhckjpmgkgjaaGreatDoorSI1
import Derived.Test.YtkbhckjpmgkgjaaGreatDoorShA
import Derived.Test.YtkbhckjpmgkgjaaGreatDoorV6
namespace Go.Proofs.YtkbhckjpmgkgjaaGreatDoor
open Go.RowKit Go.Shelf

/-- Where the first digit stands, or -1. -/
def fdig (l : By) : Int := match l.findIdx? digB with
  | some k => (k : Int)
  | none => -1
/-- No digit among the first so many. -/
def NoDig (l : By) (i : Nat) : Prop := ∀ j b, j < i → l[j]? = some b → digB b = false
theorem fdig_hit {l : By} {i : Nat} {b : UInt8} (h : NoDig l i) (hb : l[i]? = some b) (hd : digB b = true) : fdig l = i := by
  obtain ⟨hi, hbi⟩ := List.getElem?_eq_some_iff.1 hb
  have : l.findIdx? digB = some i := by
    rw [List.findIdx?_eq_some_iff_getElem]
    refine ⟨hi, by rw [hbi]; exact hd, fun j hj => ?_⟩
    have := h j (l[j]'(by omega)) hj (List.getElem?_eq_getElem (by omega))
    simp [this]
  unfold fdig
  rw [this]
theorem fdig_none {l : By} (h : NoDig l l.length) : fdig l = -1 := by
  have : l.findIdx? digB = none := by
    rw [List.findIdx?_eq_none_iff]
    intro x hx
    obtain ⟨j, hj, rfl⟩ := List.mem_iff_getElem.1 hx
    exact h j _ hj (List.getElem?_eq_getElem hj)
  unfold fdig
  rw [this]
theorem NoDig.zero (l : By) : NoDig l 0 := fun j b hj => absurd hj (by omega)
theorem NoDig.succ {l : By} {i : Nat} {b : UInt8} (h : NoDig l i) (hb : l[i]? = some b) (hd : digB b = false) : NoDig l (i + 1) := fun j c hj hc => by
  by_cases e : j = i
  · subst e
    rw [hb] at hc
    cases hc
    exact hd
  · exact h j c (by omega) hc
theorem digs_has (x : UInt8) : (vb digs).contains x = digB x := by
  have h : ∀ n : Fin 256, (vb digs).contains (UInt8.ofNat n.val) = digB (UInt8.ofNat n.val) := by decide +kernel
  have := h ⟨x.toNat, x.toNat_lt⟩
  simpa using this
theorem index_dig (x : UInt8) : decide ((0 : Int) ≤ Lib.indexByte (vb digs) x) = digB x := by
  rw [← digs_has x]
  rcases index_cut (vb digs) x with ⟨h1, h2⟩ | ⟨k, h1, h2, h3⟩
  · rw [h1]
    have : x ∉ vb digs := cutAt_no h2
    rw [show (vb digs).contains x = false by simpa using this]
    rfl
  · rw [h1]
    have h4 := (cutAt_back h3).1
    have : x ∈ vb digs := by rw [h4]; simp
    rw [show (vb digs).contains x = true by simpa using this]
    exact decide_eq_true (by omega)
theorem at_get (s : ByteArray) (i : Nat) (h : i < s.size) : (vb s)[i]? = some (s[i]'h) := by
  rw [List.getElem?_eq_getElem (by rw [vb_len]; exact h)]
  rfl
/-- Behind the first byte of a rune come bytes that are no digits. -/
theorem decode_cont (s : ByteArray) (pos : Nat) (h : pos < s.size) (ha : 128 ≤ (s[pos]'h).toNat) : ∀ j b, pos ≤ j → j < pos + (Utf8.decode s pos).2 → (vb s)[j]? = some b → digB b = false := by
  intro j b hj hlt hb
  have hjs : j < s.size := by
    have := (List.getElem?_eq_some_iff.1 hb).1
    rwa [vb_len] at this
  have hbs : s.get! j = b := by
    rw [at_get s j hjs] at hb
    rw [← Option.some.inj hb]
    simp [ByteArray.get!, getElem!_pos, hjs]
    rfl
  have key : 128 ≤ b.toNat := by
    by_cases e : j = pos
    · subst e
      rw [at_get s j h] at hb
      rw [← Option.some.inj hb]
      exact ha
    · have hn : ¬ (s[pos]'h).toNat < 128 := by omega
      simp only [Utf8.decode, get_at s pos h, hn, if_false] at hlt
      have hc : ∀ k, pos + k = j → (s.get! (pos + k)).toNat / 64 = 2 → 128 ≤ b.toNat := fun k hk h2 => by
        rw [hk, hbs] at h2
        omega
      have h1 : j = pos + 1 ∨ j = pos + 2 ∨ j = pos + 3 ∨ pos + 4 ≤ j := by omega
      split at hlt
      · rename_i hx
        simp only [Bool.and_eq_true, beq_iff_eq, decide_eq_true_eq] at hx
        split at hlt
        · exact hc 1 (by simp only at hlt; omega) hx.2.2
        · simp only at hlt; omega
      · split at hlt
        · rename_i hx
          simp only [Bool.and_eq_true, beq_iff_eq, decide_eq_true_eq] at hx
          split at hlt
          · simp only at hlt
            rcases h1 with h1 | h1 | h1 | h1
            · exact hc 1 h1.symm hx.1.2.2
            · exact hc 2 h1.symm hx.2.2
            · omega
            · omega
          · simp only at hlt; omega
        · split at hlt
          · rename_i hx
            simp only [Bool.and_eq_true, beq_iff_eq, decide_eq_true_eq] at hx
            split at hlt
            · simp only at hlt
              rcases h1 with h1 | h1 | h1 | h1
              · exact hc 1 h1.symm hx.1.1.2.2
              · exact hc 2 h1.symm hx.1.2.2
              · exact hc 3 h1.symm hx.2.2
              · omega
            · simp only at hlt; omega
          · simp only at hlt; omega
  cases hd : digB b with
  | false => rfl
  | true =>
    have := (digB_iff b).1 hd
    omega
set_option maxHeartbeats 400000 in
theorem should_ok (n : Int) (w : World) : Calls Tryz.prog 165 #[.int .i64 n] w fun e w' => e = .returned (.bool (decide (8 < n))) ∧ w' = w := by
  by_cases h : 8 < n
  · have HE : Hid (decide (8 < n) = true) := decide_eq_true h
    go_enter Tryz.func165, Tryz.ntmps165
    go_wp2
    go_ret
    exact ⟨by rw [HE.out]; rfl, rfl⟩
  · have HE : Hid (decide (8 < n) = false) := decide_eq_false h
    go_enter Tryz.func165, Tryz.ntmps165
    go_wp2
    go_ret
    exact ⟨by rw [HE.out]; rfl, rfl⟩
abbrev setA : Array Value := Lib.setCells (vb digs)
theorem zero_set (w : World) : (zeroValue 242).run Tryz.prog w = .ok (.agg (Array.replicate 256 (.bool false))) w := by kernel_rfl
theorem info_set : (Tryz.prog.info? 242).map (·.size) = some 256 := by kernel_rfl
theorem ascii_ok (w : World) : Calls Tryz.prog 166 #[.string digs] w fun e w' => e = .returned (.tuple #[.agg setA, .bool true]) ∧ w' = w.alloc (.cells setA 242) :=
  Any.strings_makeASCIISet Tryz.lays227 zero_set info_set digs w (by decide) (fun j b hj => by
    have h := (digs_has b)
    have : b ∈ vb digs := List.mem_of_getElem? hj
    rw [show (vb digs).contains b = true by simpa using this] at h
    have := (digB_iff b).1 h.symm
    omega)
set_option maxHeartbeats 400000 in
theorem contains_ok (b : Nat) (x : UInt8) (v : Bool) (w : World) (hc : w.cell? ⟨b, x.toNat, none⟩ = some (.bool v)) : Calls Tryz.prog 167 #[.pointer (some ⟨b, 0, none⟩), .int .u8 x.toNat] w fun e w' => e = .returned (.bool v) ∧ w' = w := by
  have hx256 : (x.toNat : Int) < 256 := by have := UInt8.toNat_lt x; omega
  go_enter Tryz.func167, Tryz.ntmps167
  go_wp2
  go_ret
  exact ⟨rfl, rfl⟩
set_option maxRecDepth 40000 in
set_option maxHeartbeats 4000000 in
theorem any_long (s : ByteArray) (h8 : 8 < s.size) (hs : s.size < 9223372036854775807) (w : World) : Calls Tryz.prog 142 #[.string s, .string digs] w fun e w' => e = .returned (.int .i64 (fdig (vb s))) ∧ Below w.heap.size w w' := by
  have hM := ascii_ok w
  have hS1 : setA.size = 256 := Lib.setCells_size (vb digs)
  have hS2 : setA.all (·.oneCell') = true := Lib.setCells_one (vb digs)
  have hS3 : ∀ x : UInt8, setA[x.toNat]? = some (.bool (digB x)) := fun x => by rw [← digs_has x]; exact Lib.setCells_at (vb digs) x
  generalize setA = S at hM hS1 hS2 hS3
  have hsh := should_ok (s.size : Int) w
  rw [decide_eq_true (by omega : (8 : Int) < (s.size : Int))] at hsh
  go_enter Tryz.func142, Tryz.ntmps142
  go_wp2_with fail
  refine hsh.mono ?_
  rintro e w1 ⟨rfl, hw1⟩
  rw [hw1]
  clear hw1 hsh
  go_wp2_with fail
  refine hM.mono ?_
  rintro e w1 ⟨rfl, hw1⟩
  clear hM
  have hi1 : (Tryz.prog.info? 242).map (·.size) = some S.size := by rw [hS1]; exact info_set
  have hz1 : (Array.replicate 256 (Value.bool false)).size = S.size := by rw [hS1, Array.size_replicate]
  have HB2 : Hid (Below w.heap.size w (w1.alloc (.cells S 242))) := by
    rw [hw1]
    exact ((Below.refl _ _).alloc (Nat.le_refl _) _).alloc (by simp) _
  have HR2 : Hid (Row (w1.alloc (.cells S 242)) w1.heap.size S 242) := Row.new _ _ _
  have hzs := zero_set w1
  have HS3 : Hid (∀ x : UInt8, S[x.toNat]? = some (.bool (digB x))) := hS3
  clear hw1 hS3 hS1
  go_wp2_with (refine wpList_store_new rfl 242 _ _ rfl w1 (Array.replicate 256 (.bool false)) S 242 rfl w1.heap.size rfl rfl rfl hi1 hz1 hS2 ?_)
  obtain ⟨w2, hw2⟩ : ∃ x, x = w1.alloc (.cells S 242) := ⟨_, rfl⟩
  rw [← hw2] at HB2 HR2
  rw [← hw2]
  obtain ⟨k, hk⟩ : ∃ k, k = w1.heap.size := ⟨_, rfl⟩
  rw [← hk] at HR2
  rw [← hk]
  clear hw2 hk hzs hi1 hz1 hS2
  go_loopw [8] (fun s8 wq => ∃ i : Nat, i ≤ s.size ∧ s8 = .int .i64 i ∧ NoDig (vb s) i ∧ Row wq k S 242 ∧ Below w.heap.size w wq) (fun s8 _ => s.size - (intOf s8).toNat)
  case atStart => exact ⟨0, Nat.zero_le _, rfl, NoDig.zero _, HR2.out, HB2.out⟩
  case round =>
    obtain ⟨i, hi, rfl, hno, hrow, hB⟩ := hrel
    have HNo : Hid (NoDig (vb s) i) := hno
    have HRow : Hid (Row wr k S 242) := hrow
    have HB : Hid (Below w.heap.size w wr) := hB
    clear hno hB HR2 HB2
    by_cases hin : i < s.size
    · have hin' : (i : Int) < (s.size : Int) := by omega
      obtain ⟨x, hx⟩ : ∃ x : UInt8, s[i]'hin = x := ⟨_, rfl⟩
      have Hx : Hid ((vb s)[i]? = some x) := by show _ = _; rw [at_get s i hin, hx]
      have hxn : (s[i]'hin).toNat = x.toNat := by rw [hx]
      have hcx := (hrow.cell x.toNat).trans (HS3.out x)
      have hct := contains_ok k x (digB x) wr hcx
      clear hx hrow hcx
      cases hd : digB x with
      | true =>
        rw [hd] at hct
        have HF : Hid (fdig (vb s) = (i : Int)) := fdig_hit HNo.out Hx.out hd
        clear hd
        go_wp2_with fail
        refine hct.mono ?_
        rintro e w3 ⟨rfl, hw3⟩
        rw [hw3]
        clear hw3 hct
        go_wp2
        go_ret
        exact ⟨by rw [HF.out]; rfl, HB.out⟩
      | false =>
        rw [hd] at hct
        have HN2 : Hid (NoDig (vb s) (i + 1)) := NoDig.succ HNo.out Hx.out hd
        clear hd
        go_wp2_with fail
        refine hct.mono ?_
        rintro e w3 ⟨rfl, hw3⟩
        rw [hw3]
        clear hw3 hct
        go_wp2
        go_roundw
        case rel => exact ⟨i + 1, by omega, by go_num, HN2.out, HRow.out, HB.out⟩
        case measure => simp [intOf]; omega
    · have hin' : ¬ (i : Int) < (s.size : Int) := by omega
      have HF : Hid (fdig (vb s) = -1) := fdig_none (by
        have h : NoDig (vb s) i := HNo.out
        rw [vb_len, show s.size = i by omega]
        exact h)
      clear hrow
      go_wp2
      go_ret
      exact ⟨by rw [HF.out]; rfl, HB.out⟩
/-- The model's iterator, and what else holds. -/
structure ItW (w : World) (s : ByteArray) (i : Nat) (wx : World) : Prop where
  it : wx.heap[w.heap.size]? = some (.stringIter s i)
  old : Below w.heap.size w wx
theorem ItW.next {w w' w'' : World} {s : ByteArray} {i : Nat} (h : ItW w s i w') (hb : Below w'.heap.size w' w'') : ItW w s i w'' :=
  ⟨(hb.block _ (Array.getElem?_eq_some_iff.1 h.it).1).trans h.it, h.old.trans (hb.mono h.old.size)⟩
set_option maxRecDepth 40000 in
set_option maxHeartbeats 4000000 in
theorem any_short (s : ByteArray) (h8 : s.size ≤ 8) (w : World) : Calls Tryz.prog 142 #[.string s, .string digs] w fun e w' => e = .returned (.int .i64 (fdig (vb s))) ∧ Below w.heap.size w w' := by
  have hsh := should_ok (s.size : Int) w
  rw [decide_eq_false (by omega : ¬ (8 : Int) < (s.size : Int))] at hsh
  go_enter Tryz.func142, Tryz.ntmps142
  go_wp2_with fail
  refine hsh.mono ?_
  rintro e w1 ⟨rfl, hw1⟩
  rw [hw1]
  clear hw1 hsh
  go_wp2
  go_loopg [9, 10] s.size (fun g _ _ wx => ∃ i : Nat, s.size ≤ i + g ∧ NoDig (vb s) i ∧ ItW w s i wx)
  case atStart => exact ⟨0, by omega, NoDig.zero _, ⟨World.iter_heap w s 0, below_iter w s 0⟩⟩
  case round =>
    obtain ⟨i, hig, hno, hit⟩ := hrel
    have HNo : Hid (NoDig (vb s) i) := hno
    have HIt : Hid (ItW w s i wr) := hit
    by_cases hin : i < s.size
    · obtain ⟨x, hx⟩ : ∃ x : UInt8, s[i]'hin = x := ⟨_, rfl⟩
      have Hx : Hid ((vb s)[i]? = some x) := by show _ = _; rw [at_get s i hin, hx]
      cases gk with
      | zero => omega
      | succ g =>
        by_cases hlow : x.toNat < 128
        · have hnx := fun ty => Lib.run_next_ascii_at (P := Tryz.prog) wr w.heap.size s i ty hit.it hin (by rw [hx]; exact hlow)
          rw [hx] at hnx
          obtain ⟨w3, hw3⟩ : ∃ y, y = wr.iterAt w.heap.size s (i + 1) := ⟨_, rfl⟩
          have HI3 : Hid (ItW w s (i + 1) w3) := by rw [hw3]; exact ⟨Lib.iterAt_heap wr _ s i (i + 1) hit.it, Lib.below_iterAt hit.old (Nat.le_refl _) s _⟩
          rw [← hw3] at hnx
          have hrl := rune_low x hlow w3
          have hdg := index_dig x
          generalize Lib.indexByte (vb digs) x = ib at hrl hdg
          clear hw3 hit hno hx
          cases hd : digB x with
          | true =>
            rw [hd] at hdg
            have hge := of_decide_eq_true hdg
            have HF : Hid (fdig (vb s) = (i : Int)) := fdig_hit HNo.out Hx.out hd
            clear hd hdg
            go_wp2_with fail
            refine hrl.mono ?_
            rintro e w4 ⟨rfl, hw4⟩
            rw [hw4]
            clear hw4 hrl
            go_wp2
            go_ret
            exact ⟨by rw [HF.out]; rfl, HI3.out.old⟩
          | false =>
            rw [hd] at hdg
            have hge := of_decide_eq_false hdg
            have HN2 : Hid (NoDig (vb s) (i + 1)) := NoDig.succ HNo.out Hx.out hd
            clear hd hdg
            go_wp2_with fail
            refine hrl.mono ?_
            rintro e w4 ⟨rfl, hw4⟩
            rw [hw4]
            clear hw4 hrl
            go_wp2
            go_roundg g
            case measure => omega
            case rel => exact ⟨i + 1, by omega, HN2.out, HI3.out⟩
        · have hnx := fun ty => Lib.run_next_any_at (P := Tryz.prog) wr w.heap.size s i ty hit.it hin
          have hhi := decode_high s i hin (by rw [hx]; omega)
          have hle := decode_le s i
          have HCt : Hid _ := decode_cont s i hin (by rw [hx]; omega)
          generalize hdc : Utf8.decode s i = rd at hnx hhi hle HCt
          obtain ⟨r, d⟩ := rd
          simp only at hnx hhi hle HCt
          obtain ⟨w3, hw3⟩ : ∃ y, y = wr.iterAt w.heap.size s (i + d) := ⟨_, rfl⟩
          have HI3 : Hid (ItW w s (i + d) w3) := by rw [hw3]; exact ⟨Lib.iterAt_heap wr _ s i (i + d) hit.it, Lib.below_iterAt hit.old (Nat.le_refl _) s _⟩
          rw [← hw3] at hnx
          have hrh := rune_high (r : Int) (by omega) (by omega) w3
          have HN2 : Hid (NoDig (vb s) (i + d)) := fun j b hj hb => by
            by_cases hji : j < i
            · exact HNo.out j b hji hb
            · exact HCt.out j b (by omega) hj hb
          have hd1 := hhi.2
          clear hw3 hit hno hx hdc hhi hle
          go_wp2_with fail
          refine hrh.mono ?_
          rintro e w4 ⟨rfl, hb4⟩
          have HI4 : Hid (ItW w s (i + d) w4) := ItW.next HI3.out hb4
          clear hrh hb4
          go_wp2
          go_roundg g
          case measure => omega
          case rel => exact ⟨i + d, by omega, HN2.out, HI4.out⟩
    · have hnx := fun ty => Lib.run_next_end_at (P := Tryz.prog) wr w.heap.size s i ty hit.it hin
      have HF : Hid (fdig (vb s) = -1) := fdig_none (fun j b hj hb => HNo.out j b (by rw [vb_len] at hj; omega) hb)
      clear hit hno
      go_wp2
      go_ret
      exact ⟨by rw [HF.out]; rfl, HIt.out.old⟩
theorem any_ok (s : ByteArray) (hs : s.size ≤ 140737488355328) (w : World) : Calls Tryz.prog 142 #[.string s, .string digs] w fun e w' => e = .returned (.int .i64 (fdig (vb s))) ∧ Below w.heap.size w w' := by
  by_cases h : 8 < s.size
  · exact any_long s h (by omega) w
  · exact any_short s (by omega) w
end Go.Proofs.YtkbhckjpmgkgjaaGreatDoor
