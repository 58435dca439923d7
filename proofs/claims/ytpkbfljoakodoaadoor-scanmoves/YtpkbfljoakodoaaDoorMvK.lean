/- My own work: what ScanMoves needs: a directory with one file, paths that are found, bytes that are put together. -/
import Derived.Test.YtpkbfljoakodoaaDoorSRep
import Derived.Test.YtpkbfljoakodoaaDoorSNode
import Derived.Test.YtpkbfljoakodoaaDoorBRepA
import Derived.Test.YtpkbfljoakodoaaDoorBufs
import Derived.Test.YtpkbfljoakodoaaDoorXI
namespace Go.Proofs.YtpkbfljoakodoaaDoor
open Go.RowKit Go.Sort
open S2 (bl bl_len bl_inj splitB Tab NTab)

/-- A directory with one file. -/
abbrev dN (D : ByteArray) : Nd := .mk 2 false ⟨#[]⟩ [⟨#[102]⟩] [.mk 1 false D [] []]
theorem names_f : namesB [⟨#[102]⟩] = true := by kernel_rfl
theorem right_dN {D : ByteArray} (h : D.size ≤ 31744) : rightE (dN D) = 0 := by
  have hn := names_f
  have h1 : (cen (dN D) 0 1).2 = true := by simp [cen, cenL]
  unfold rightE
  rw [h1]
  have a2 : aloneE (.mk 1 false D [] []) = 0 := by
    have hb : bigB (.mk 1 false D [] []) = false := by
      unfold bigB
      refine decide_eq_false ?_
      have e : entN (Nd.mk 1 false D [] []).names = 0 := rfl
      rw [e]
      show ¬ (31744 : Int) < _
      show ¬ (31744 : Int) < ((D.size + 0 : Nat) : Int)
      omega
    have hk : kindB (.mk 1 false D [] []) = true := rfl
    have hm : namesB (Nd.mk 1 false D [] []).names = true := rfl
    unfold aloneE
    rw [hk, hb, hm]
    rfl
  have a1 : aloneE (dN D) = 0 := by
    have hk : kindB (dN D) = true := rfl
    have hb : bigB (dN D) = false := by
      unfold bigB
      refine decide_eq_false ?_
      show ¬ (31744 : Int) < ((0 + (1 + 3) : Nat) : Int)
      decide
    have hm : namesB (dN D).names = true := hn
    unfold aloneE
    rw [hk, hb, hm]
    rfl
  have e2 : eachE (.mk 1 false D [] []) = 0 := by
    unfold eachE
    rw [a2]
    simp [eachL]
  have e1 : eachE (dN D) = 0 := by
    show eachE (.mk 2 false ⟨#[]⟩ [⟨#[102]⟩] [.mk 1 false D [] []]) = 0
    unfold eachE
    have a1' : aloneE (.mk 2 false ⟨#[]⟩ [⟨#[102]⟩] [.mk 1 false D [] []]) = 0 := a1
    rw [a1']
    simp [eachL, e2]
  rw [e1]
  rfl
theorem texts_dN {D : ByteArray} (h : D.size ≤ 31744) : textsOf (dN D) = [⟨#[102]⟩, D] := by
  unfold textsOf
  rw [if_pos (right_dN h)]
  simp [Nd.texts, Nd.textsL]
theorem rp_dN (o y : List UInt8) (ho : o ≠ []) (D : ByteArray) : rpN o y (dN D) = dN ⟨(rpl o y (bl D)).toArray⟩ := by
  show rpN o y (.mk 2 false ⟨#[]⟩ [⟨#[102]⟩] [.mk 1 false D [] []]) = _
  simp only [rpN, rpNL]
  have e : rpl o y (bl ⟨#[]⟩) = [] := rpl_nil ho
  rw [e]
theorem dN_lit {w : World} {D : ByteArray} {C : Array Value} (h : NodeAt w (dN D) C) : ∃ xa xc na nc kb koff kc da dc, C = nodeV 2 false xa 0 xc na 1 nc (some ⟨kb, koff, none⟩) 1 kc ∧ 1 ≤ kc ∧ kc ≤ maxLen ∧ w.cell? ⟨kb, koff + 2, none⟩ = some (.slice da D.size dc) := by
  cases h with
  | @mk k e d ns ks da dc na nc ka kb koff kc Cs hk hd hn hks each =>
  have h0 : NodeAt w (.mk 1 false D [] []) (Cs 0) := each 0 (by simp)
  have hc := hks.cell 0 (by simp) 2 (by omega)
  have ha := hks.at' (by simp)
  have hle := hks.le
  have hcp := hks.cap
  subst ha
  generalize Cs 0 = C0 at h0 hc
  cases h0 with
  | @mk _ _ _ _ _ da2 dc2 na2 nc2 ka2 kb2 koff2 kc2 Cs2 hk2 hd2 hn2 hks2 each2 =>
  exact ⟨da, dc, na, nc, kb, koff, kc, da2, dc2, rfl, hle, hcp, by simpa using hc⟩
/-- Signs that stand between bytes are found. -/
theorem occ_mid (X k Y : List UInt8) (hk : k.length = 32) : occ k (X ++ k ++ Y) = true := by
  unfold occ
  refine List.any_eq_true.2 ⟨X.length, List.mem_range.2 (by simp [hk]; omega), ?_⟩
  have e : win (X ++ k ++ Y) X.length = k := by
    unfold win
    rw [List.append_assoc, List.drop_left, ← hk, List.take_left]
  rw [e]
  simp
/-- The paths that are found, as texts. -/
def ubsM (ts ps : List ByteArray) : List ByteArray := (uniq ((foundP ts ps).map bl)).map fun l => ⟨l.toArray⟩
theorem found_mem {ts ps : List ByteArray} {p : ByteArray} (hp : p ∈ ps) (hs : splitB (bl p) = true) {t : ByteArray} (ht : t ∈ ts) (ho : occ (sgn p) (bl t) = true) : p ∈ ubsM ts ps := by
  unfold ubsM
  refine List.mem_map.2 ⟨bl p, ?_, ?_⟩
  · rw [mem_uniq]
    refine List.mem_map.2 ⟨p, ?_, rfl⟩
    unfold foundP
    refine List.mem_filter.2 ⟨hp, ?_⟩
    rw [hs]
    simp only [Bool.true_and]
    exact List.any_eq_true.2 ⟨t, ht, ho⟩
  · exact bl_inj rfl
def NdPost (w : World) (ts ps : List ByteArray) (e : Ending) (w' : World) : Prop := ∃ v, e = .returned v ∧ TsAt w' v (ubsM ts ps) ∧ Below w.heap.size w w'
theorem node_ts (n : Nd) (a : Option Addr) (ps : List ByteArray) (c : Nat) (w : World) (C : Array Value) (h : NodeAt w n C) (h6 : n.count ≤ 16000) (hP : StrsAt w a ps c) (hT : Tab w) (hNT : NTab w) : Calls Tryd.prog 9 #[.agg C, .slice a ps.length c] w (NdPost w (textsOf n) ps) :=
  (node_ok n a ps c w C h h6 hP hT hNT).mono fun e w' ⟨v, h1, h2, h3⟩ => ⟨v, h1, TsAt.of_own (B := w.heap.size) (by
    have e : (ubsM (textsOf n) ps).map Value.string = (uniq ((foundP (textsOf n) ps).map bl)).map encStr := by
      unfold ubsM
      rw [List.map_map]
      rfl
    rw [e]
    unfold ubsM
    rw [List.length_map]
    exact h2), h3⟩
theorem strs_lit {w : World} {g : Nat} (ps : List ByteArray) (hr : Row w g (ps.map Value.string).toArray 9) (hs : ∀ s ∈ ps, s.size ≤ big) (hl : ps.length * 16 ≤ big) (hm : ps.length ≤ maxLen) : StrsAt w (some ⟨g, 0, none⟩) ps ps.length := by
  refine ⟨⟨g, 0, fun _ => rfl, fun i hi => ?_⟩, (fun h => nomatch h), Nat.le_refl _, hm, hl, hs⟩
  rw [Nat.zero_add, hr.cell]
  simp [hi]
theorem buf_bytes {w : World} {B : Nat} {a : Option Addr} {c : Nat} {X : List UInt8} (h : Buf w B (.slice a X.length c) X) (hX : X.length ≤ big) : BytesAt w a ⟨X.toArray⟩ c := by
  have hs : (⟨X.toArray⟩ : ByteArray).size = X.length := by show X.toArray.size = _; simp
  obtain ⟨b, h1, h2, h3, h4, h5, h6⟩ := own_parts h
  refine ⟨⟨b, 0, by rw [hs]; exact h1, fun i hi => ?_⟩, by rw [hs]; exact h3, by rw [hs]; exact h4, h5, by rw [hs]; exact hX⟩
  rw [hs] at hi
  rw [Nat.zero_add, h2 i (by omega) (by omega)]
  unfold u8s bf
  simp [hi]
theorem src_bytes {w : World} {a : Option Addr} {d : ByteArray} {c : Nat} (h : BytesAt w a d c) : Src Tryd.prog 1 22 (.slice a d.size c) (bl d).length (u8s (bl d)) w := by
  have hl := bl_len d
  cases a with
  | none =>
    obtain ⟨h1, rfl⟩ := h.nil rfl
    have e : bl d = [] := List.eq_nil_of_length_eq_zero (by omega)
    rw [h1, e]
    exact Src.ofNil w Tryd.underlying22 0
  | some ad =>
    rw [← hl]
    refine Src.ofSlice w Tryd.underlying22 ad _ c _ (by rw [u8s_length, Nat.mul_one]) (fun j u hj => ?_) (u8s_one _)
    obtain ⟨b, off, h1, h2⟩ := h.ex
    have hj' : j < d.size := by
      have := (List.getElem?_eq_some_iff.1 hj).1
      rw [u8s_length, hl] at this
      exact this
    obtain rfl := Option.some.inj (h1 (by omega))
    have hj2 : j < d.data.size := hj'
    have e1 : (u8s (bl d))[j]? = some (.int .u8 (d.data[j].toNat : Int)) := by
      unfold u8s bl
      rw [List.getElem?_map, Array.getElem?_toList, Array.getElem?_eq_getElem hj2]
      rfl
    have e2 : bf d j = (d.data[j].toNat : Int) := by
      unfold bf
      rw [Array.getElem?_eq_getElem hj2]
      rfl
    rw [addr_plainB, h2 j hj', e2, ← e1, hj]
section
variable {w : World} {ops : Array Oper} {rest : List Oper} {o : Oper} {a : Act} {Q : Exit → Act → World → Prop}
theorem apw_src {K : Act → World → Prop} (dd : Option Tmp) (hdd : o.dst = dd) (s x : Operand) (tx : TypeId) (ho : o.op = .call { callee := .builtin .append, args := #[s, x], argTypes := #[22, tx] })
    (B : Nat) (v : Value) (X : List UInt8) (hs : a.eval s = v) (hown : Buf w B v X) (xv : Value) (hx : a.eval x = xv) (Y : List UInt8) (hsrc : Src Tryd.prog 1 tx xv Y.length (u8s Y) w) (hln : X.length + Y.length ≤ 140737488355328) (hB : B ≤ w.heap.size)
    (h : ∀ v' w', More B w v w' v' (X ++ Y) → K (a.put dd v') w') : o.wp Tryd.prog a w K Q := by
  subst hdd
  obtain ⟨i0, hi, hz0, hz1, hz2⟩ := info_parts infoB
  obtain ⟨v', w', hr, hm⟩ := run_append_src (P := Tryd.prog) w B 22 tx o.type i0 Tryd.underlying22 hi hz0 hz1 hz2 v X hown xv Y hsrc hln hB
  exact Lib.wp_append_run w s x 22 tx ho v xv hs hx v' w' hr (h v' w' hm)
theorem wpList_run (hgd : o.guard = none) (op : Op) (_ho : o.op = op) (v : Value) (w' : World) (h : (execOp a.eval o).run Tryd.prog w = .ok (.value v) w') (k : wpList Tryd.prog ops Q rest (a.put o.dst v) w') : wpList Tryd.prog ops Q (o :: rest) a w :=
  wpList_plain hgd fun K hK => by
    unfold Oper.wp
    rw [h]
    simp only [Oper.upon]
    exact hK _ _ k
theorem wpList_runG (hw : Region.wanted o (yielded ops a.tmps) = true) (op : Op) (_ho : o.op = op) (v : Value) (w' : World) (h : (execOp a.eval o).run Tryd.prog w = .ok (.value v) w') (k : wpList Tryd.prog ops Q rest (a.put o.dst v) w') : wpList Tryd.prog ops Q (o :: rest) a w :=
  BigFrame.wpList_want hw fun K hK => by
    unfold Oper.wp
    rw [h]
    simp only [Oper.upon]
    exact hK _ _ k
end
end Go.Proofs.YtpkbfljoakodoaaDoor
