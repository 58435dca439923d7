/- My own work: the path of a kind, a digest and a name; the walk of Make. -/
import Derived.Test.YtdgilhclhnchbaaDoorPLib
import Derived.Test.YtdgilhclhnchbaaDoorS2Sum
import Derived.Lib.ConvBytes
import Derived.Laws.AppendOwn
namespace Go.Proofs.YtdgilhclhnchbaaDoor.S2
open Go.RowKit Math

/-- A text's bytes as numbers. -/
def fX (X : List UInt8) (i : Nat) : Int := ((X[i]?).getD 0).toNat
theorem fX_bd (X : List UInt8) (i : Nat) : 0 ≤ fX X i ∧ fX X i < 256 := by
  unfold fX
  have := ((X[i]?).getD 0).toNat_lt
  omega
theorem fX_past (X : List UInt8) (i : Nat) (h : X.length ≤ i) : fX X i = 0 := by
  unfold fX
  rw [List.getElem?_eq_none h]
  rfl
/-- The digest of a text's bytes. -/
def digX (X : List UInt8) : Nat → Int :=
  dig (hs (fX X) X.length (64 * (X.length / 64) + 64 * (if X.length % 64 + 9 > 64 then 2 else 1)) (X.length / 64 + (if X.length % 64 + 9 > 64 then 2 else 1)))
/-- The text of which the signs are made. -/
def textE (kind : ByteArray) (f : Nat → Int) (name : ByteArray) : ByteArray := kind ++ ⟨#[58]⟩ ++ strOfNums (enc (bitAt 8 f) 52) ++ ⟨#[58]⟩ ++ name
/-- The signs of a path. -/
def signE' (kind : ByteArray) (f : Nat → Int) (name : ByteArray) : ByteArray := strOfNums (enc (bitAt 8 (short (digX (bl (textE kind f name))))) 32)
def pathE (kind : ByteArray) (f : Nat → Int) (name : ByteArray) : ByteArray := ⟨#[47, 115, 116, 111, 114, 101, 47]⟩ ++ signE' kind f name ++ ⟨#[45]⟩ ++ name
def mayB (kind name : ByteArray) : Bool := nameB (bl name) && kindB (bl kind)
/-- What Make tells. -/
def makeV (kind : ByteArray) (f : Nat → Int) (name : ByteArray) : Value := if mayB kind name then .tuple #[.string (pathE kind f name), .int .i64 0] else .tuple #[.string ⟨#[]⟩, .int .i64 17]
theorem bs_conv (w : World) (s : ByteArray) : Bs (Lib.bytesWorld w 5 s) (some ⟨w.heap.size, 0, none⟩) w.heap.size 0 s.size (fX (bl s)) := by
  refine ⟨fun _ => rfl, fun i hi => ?_, fX_bd _, fun i hi => fX_past _ _ (by rw [bl_len]; exact hi)⟩
  rw [Nat.zero_add, Lib.bytesWorld_cell _ _ _ _ hi]
  unfold fX
  rw [List.getD_eq_getElem?_getD]
theorem bytesWorld_below (w : World) (s : ByteArray) : Below w.heap.size w (Lib.bytesWorld w 5 s) :=
  ⟨rfl, rfl, rfl, by rw [Lib.bytesWorld_size]; omega, fun k hk => Lib.bytesWorld_at_old w 5 s k hk⟩
theorem FTab.keep {w w' : World} (h : FTab w) (hb : Below w.heap.size w w') : FTab w' := h.below hb h.pos
theorem KTab.keep {w w' : World} (h : KTab w) (hb : Below w.heap.size w w') : KTab w' := h.below hb h.pos
theorem Tab.keep {w w' : World} (h : Tab w) (hb : Below w.heap.size w w') : Tab w' := h.below hb h.pos
theorem sum_conv (w : World) (s : ByteArray) (hs : s.size ≤ 140737488351232) (hF : FTab w) (hK : KTab w) : Calls Tryd.prog 18 #[.slice (some ⟨w.heap.size, 0, none⟩) s.size (grownCap w s.size 0 5)] (Lib.bytesWorld w 5 s) fun e w' => e = .returned (.agg (arr (digX (bl s)) 32)) ∧ Below (Lib.bytesWorld w 5 s).heap.size (Lib.bytesWorld w 5 s) w' := by
  have hb := bytesWorld_below w s
  have hle := grownCap_le_maxLen w s.size 0 5 (by unfold maxLen; omega)
  unfold maxLen at hle
  have h := sum_any (some ⟨w.heap.size, 0, none⟩) w.heap.size 0 s.size (grownCap w s.size 0 5) (s.size / 64) (s.size % 64) (if s.size % 64 + 9 > 64 then 2 else 1) (fX (bl s)) (Lib.bytesWorld w 5 s) (hF.keep hb) (hK.keep hb) (bs_conv w s) (fun h => nomatch h) (grownCap_ge w s.size 0 5) hle (by omega) (by omega) (by omega) rfl
  unfold digX
  rw [bl_len]
  exact h
theorem may_facts {kind name : ByteArray} (h : mayB kind name = true) : 1 ≤ name.size ∧ name.size ≤ 27 ∧ 1 ≤ kind.size ∧ kind.size ≤ 20 := by
  unfold mayB nameB kindB at h
  simp only [Bool.and_eq_true, decide_eq_true_eq, bl_len] at h
  exact ⟨h.1.1.1, h.1.1.2.1, h.2.1.1, h.2.1.2⟩
theorem cat_size (a b : ByteArray) : (a ++ b).size = a.size + b.size := ByteArray.size_append
theorem text_size (kind : ByteArray) (f : Nat → Int) (name : ByteArray) : (textE kind f name).size = kind.size + name.size + 54 := by
  unfold textE
  have e1 : (⟨#[58]⟩ : ByteArray).size = 1 := rfl
  have e2 : (enc (bitAt 8 f) 52).length = 52 := by simp [enc]
  simp only [cat_size, strOfNums_size, e1, e2]
  omega
set_option maxRecDepth 20000 in
set_option maxHeartbeats 2000000 in
theorem make_ok (kind : ByteArray) (f : Nat → Int) (name : ByteArray) (w : World) (hT : Tab w) (hF : FTab w) (hK : KTab w) (hN : NTab w) (hf : ∀ i, 0 ≤ f i ∧ f i < 256) (hf0 : ∀ i, 32 ≤ i → f i = 0) :
    Calls Tryd.prog 7 #[.string kind, .agg (arr f 32), .string name] w fun e w' => e = .returned (makeV kind f name) ∧ Below w.heap.size w w' := by
  obtain ⟨A, hA⟩ : ∃ A, A = arr f 32 := ⟨_, rfl⟩
  have hAs : A.size = 32 := by rw [hA, arr_size]
  rw [← hA]
  have HA : Hid _ := hA
  clear hA
  have HT : Hid (Tab w) := hT
  have HF : Hid (FTab w) := hF
  have HK : Hid (KTab w) := hK
  have HN : Hid (NTab w) := hN
  clear hT hF hK hN
  have b0 : Below w.heap.size w (w.alloc (.cells A 39)) := (Below.refl _ _).alloc (Nat.le_refl _) _
  have hM := name_ok name (w.alloc (.cells A 39)) (NTab.keep HN.out b0)
  cases hnm : nameB (bl name) with
  | false =>
    have HV : Hid (makeV kind f name = .tuple #[.string ⟨#[]⟩, .int .i64 17]) := by show _ = _; unfold makeV mayB; rw [hnm]; rfl
    rw [hnm] at hM
    go_enter Tryd.func7, Tryd.ntmps7
    go_wp2_with fail
    refine hM.mono ?_
    rintro e w1 ⟨rfl, hb1⟩
    have hb01 := b0.trans (hb1.mono b0.size)
    clear hM hb1 b0
    go_wp2
    go_ret2
    exact ⟨by rw [HV.out]; rfl, hb01⟩
  | true =>
    rw [hnm] at hM
    cases hkd : kindB (bl kind) with
    | false =>
      have HV : Hid (makeV kind f name = .tuple #[.string ⟨#[]⟩, .int .i64 17]) := by show _ = _; unfold makeV mayB; rw [hnm, hkd]; rfl
      go_enter Tryd.func7, Tryd.ntmps7
      go_wp2_with fail
      refine hM.mono ?_
      rintro e w1 ⟨rfl, hb1⟩
      have hb01 := b0.trans (hb1.mono b0.size)
      have hKd := isKind_ok kind w1
      rw [hkd] at hKd
      clear hM hb1 b0
      go_wp2_with fail
      refine hKd.mono ?_
      rintro e w2 ⟨rfl, hw2⟩
      rw [hw2]
      clear hw2 hKd
      go_wp2
      go_ret2
      exact ⟨by rw [HV.out]; rfl, hb01⟩
    | true =>
      have hmay : mayB kind name = true := by unfold mayB; rw [hnm, hkd]; rfl
      have HV : Hid (makeV kind f name = .tuple #[.string (pathE kind f name), .int .i64 0]) := by show _ = _; unfold makeV; rw [hmay]; rfl
      obtain ⟨hn1, hn2, hk1, hk2⟩ := may_facts hmay
      have htl := text_size kind f name
      have HTL : Hid ((textE kind f name).size ≤ 140737488351232) := by show _ ≤ _; omega
      have hi39 : (Tryd.prog.info? 39).map (·.size) = some A.size := by rw [hAs]; kernel_rfl
      clear hmay htl
      go_enter Tryd.func7, Tryd.ntmps7
      go_wp2_with fail
      refine hM.mono ?_
      rintro e w1 ⟨rfl, hb1⟩
      have hb01 := b0.trans (hb1.mono b0.size)
      have hrow : Row w1 w.heap.size A 39 := (Row.new w A 39).below hb1 (by simp)
      have hKd := isKind_ok kind w1
      rw [hkd] at hKd
      clear hM hb1 b0 hnm hkd
      go_wp2_with fail
      refine hKd.mono ?_
      rintro e w2 ⟨rfl, hw2⟩
      rw [hw2]
      clear hw2 hKd w2
      have hTx := text_any f w1 (Tab.keep HT.out hb01) hf hf0
      rw [← HA.out] at hTx
      go_wp2_with (first | refine wpList_load_row rfl 39 _ rfl w.heap.size rfl 39 A (0, 0) _ hrow Tryd.underlying39 rfl hi39 ?_ | fail)
      refine hTx.mono ?_
      rintro e w2 ⟨rfl, hb2⟩
      have hb02 := hb01.trans (hb2.mono hb01.size)
      clear hTx hb2 hb01 hrow
      obtain ⟨X, hX⟩ : ∃ X, X = strOfNums (enc (bitAt 8 f) 52) := ⟨_, rfl⟩
      obtain ⟨T, hTe⟩ : ∃ T, T = textE kind f name := ⟨_, rfl⟩
      have hXs : X.size = 52 := by rw [hX, strOfNums_size]; simp [enc]
      have hTx : kind ++ ⟨#[58]⟩ ++ X ++ ⟨#[58]⟩ ++ name = T := by rw [hTe, hX]; rfl
      have hcv := Lib.run_convert_string_bytes (P := Tryd.prog) w2 9 42 5 T Tryd.underlying9 Tryd.underlying42 Tryd.underlying5
      have hSm := sum_conv w2 T (by rw [hTe]; exact HTL.out) (FTab.keep HF.out hb02) (KTab.keep HK.out hb02)
      rw [← hX]
      have HX : Hid _ := hX
      have HTe : Hid _ := hTe
      clear hX hTe
      go_wp2_with fail
      refine hSm.mono ?_
      rintro e w3 ⟨rfl, hb3⟩
      have hbc := bytesWorld_below w2 T
      have hb2c := hb02.trans (hbc.mono hb02.size)
      have hb03 := hb2c.trans (hb3.mono hb2c.size)
      clear hSm hcv hb3 hbc hb2c hb02 hTx
      have hSh := short_any (digX (bl T)) w3 (Tab.keep HT.out hb03)
      obtain ⟨S, hS⟩ : ∃ S, S = strOfNums (enc (bitAt 8 (short (digX (bl T)))) 32) := ⟨_, rfl⟩
      have hSs : S.size = 32 := by rw [hS, strOfNums_size]; simp [enc]
      have HP : Hid (pathE kind f name = ⟨#[47, 115, 116, 111, 114, 101, 47]⟩ ++ S ++ ⟨#[45]⟩ ++ name) := by show _ = _; rw [hS, HTe.out]; rfl
      rw [← hS] at hSh
      clear hS
      obtain ⟨D, hD⟩ : ∃ D, D = arr (digX (bl T)) 32 := ⟨_, rfl⟩
      rw [← hD] at hSh
      rw [← hD]
      clear hD
      go_wp2_with fail
      refine hSh.mono ?_
      rintro e w4 ⟨rfl, hb4⟩
      have hb04 := hb03.trans (hb4.mono hb03.size)
      clear hSh hb4 hb03
      go_wp2
      go_ret2
      exact ⟨by rw [HV.out, HP.out]; rfl, hb04⟩
end Go.Proofs.YtdgilhclhnchbaaDoor.S2
