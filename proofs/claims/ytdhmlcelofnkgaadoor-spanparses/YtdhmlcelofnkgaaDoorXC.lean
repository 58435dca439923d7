/- My own work: the document's Parse of ranges. My own work: the document's Has. My own work: the law SpanParses. My own work: how much what comes in may hold, in the second form. -/
import Derived.Test.YtdhmlcelofnkgaaDoorXB
import Derived.Test.YtdhmlcelofnkgaaDoorRows
namespace Go.Proofs.YtdhmlcelofnkgaaDoor
open Go.RowKit

theorem mapO_step {α β : Type} {f : α → Option β} {L : List α} {k : Nat} {D : List β} (h : mapO f L = (mapO f (L.drop k)).map (D ++ ·)) (hk : k < L.length) {a : β} (ha : f L[k] = some a) : mapO f L = (mapO f (L.drop (k + 1))).map ((D ++ [a]) ++ ·) := by
  rw [h, List.drop_eq_getElem_cons hk, mapO_cons ha]
  cases mapO f (L.drop (k + 1)) <;> simp
theorem mapO_stop {α β : Type} {f : α → Option β} {L : List α} {k : Nat} {D : List β} (h : mapO f L = (mapO f (L.drop k)).map (D ++ ·)) (hk : k < L.length) (ha : f L[k] = none) : mapO f L = none := by
  rw [h, List.drop_eq_getElem_cons hk, mapO_none ha]
  rfl
theorem mapO_end {α β : Type} {f : α → Option β} {L : List α} {k : Nat} {D : List β} (h : mapO f L = (mapO f (L.drop k)).map (D ++ ·)) (hk : L.length ≤ k) : mapO f L = some D := by
  rw [h, List.drop_of_length_le hk]
  simp [mapO]
theorem mapO_begin {α β : Type} (f : α → Option β) (L : List α) : mapO f L = (mapO f (L.drop 0)).map (([] : List β) ++ ·) := by
  rw [List.drop_zero]
  cases mapO f L <;> simp
/-- A term as it lies in memory. -/
abbrev encM (t : Tm) : List Value := encT (tx t.1) t.2
def flatT (L : List Tm) : List Value := (L.map encM).flatten
theorem flatT_len (L : List Tm) : (flatT L).length = L.length * 7 := by
  induction L with
  | nil => rfl
  | cons v L ih =>
    have h7 : (encM v).length = 7 := rfl
    show (encM v ++ flatT L).length = (L.length + 1) * 7
    rw [List.length_append, ih, h7]
    omega
theorem flatT_snoc (L : List Tm) (t : Tm) : flatT (L ++ [t]) = flatT L ++ encM t := by
  unfold flatT
  rw [List.map_append, List.flatten_append]
  simp
theorem flatT_at : ∀ (L : List Tm) (i : Nat) (hi : i < L.length) (j : Nat), j < 7 → (flatT L)[i * 7 + j]? = (encM L[i])[j]? := by
  intro L
  induction L with
  | nil => exact fun i hi => absurd hi (by simp)
  | cons c r ih =>
    intro i hi j hj
    have h7 : (encM c).length = 7 := rfl
    show (encM c ++ flatT r)[i * 7 + j]? = _
    cases i with
    | zero => rw [Nat.zero_mul, Nat.zero_add, List.getElem?_append_left (by rw [h7]; exact hj)]; rfl
    | succ i =>
      rw [List.getElem?_append_right (by rw [h7]; omega), h7, show (i + 1) * 7 + j - 7 = i * 7 + j by omega]
      exact ih i (by simpa using hi) j hj
/-- An alternative in memory: terms one behind another. -/
structure AlAt (w : World) (v : Value) (a : List Tm) : Prop where
  ex : ∃ g cap, v = .slice (some ⟨g, 0, none⟩) a.length cap ∧ g < w.heap.size ∧ (∃ C, w.heap[g]? = some (.cells C 52 (0, 0))) ∧ ∀ i (h : i < a.length), w.rangeAt g (i * 7) (encM a[i])
theorem AlAt.keep {w w' : World} {v : Value} {a : List Tm} {B : Nat} (h : AlAt w v a) (hB : w.heap.size ≤ B) (hb : Below B w w') : AlAt w' v a := by
  obtain ⟨g, cap, h1, h2, ⟨C, h3⟩, h4⟩ := h.ex
  exact ⟨g, cap, h1, Nat.lt_of_lt_of_le h2 hb.size, ⟨C, (hb.block g (by omega)).trans h3⟩, fun i hi j u hj => (hb.cell (p := ⟨g, i * 7 + j, none⟩) (by show g < B; omega)).trans (h4 i hi j u hj)⟩
theorem AlAt.grown {w w' : World} {v : Value} {a : List Tm} {row : Option Nat} (h : AlAt w v a) (hg : w.grownBy w' row) (hr : ∀ k, row = some k → ∃ C, w.heap[k]? = some (.cells C 50 (0, 0))) : AlAt w' v a := by
  obtain ⟨g, cap, h1, h2, ⟨C, h3⟩, h4⟩ := h.ex
  have hne : some g ≠ row := fun e => by
    obtain ⟨D, hD⟩ := hr g e.symm
    rw [h3] at hD
    simp at hD
  refine ⟨g, cap, h1, Nat.lt_of_lt_of_le h2 hg.size, ⟨C, (hg.block g h2 hne).trans h3⟩, fun i hi j u hj => hg.cell (a := ⟨g, i * 7 + j, none⟩) (h4 i hi j u hj) hne⟩
theorem al_own {w : World} {B : Nat} {v : Value} {a : List Tm} (h : w.ownsRow B 52 7 v a.length (flatT a)) (h0 : 0 < a.length) : AlAt w v a := by
  have h' := h
  have hrow := ownsRow_row h
  obtain ⟨hl, ⟨rfl, h0'⟩ | ⟨g, cap, cur, rfl, _, hr, _⟩⟩ := h
  · omega
  · refine ⟨g, cap, rfl, (Array.getElem?_eq_some_iff.1 hr).1, hrow g rfl, fun i hi j u hj => ?_⟩
    have hj7 : j < 7 := (List.getElem?_eq_some_iff.1 hj).1
    rw [h'.cellAt (i * 7 + j) (by omega), flatT_at a i hi j hj7]
    exact hj
/-- A range in memory. -/
structure RgAt (w : World) (v : Value) (P : List (List Tm)) : Prop where
  ex : ∃ g cap, v = .slice (some ⟨g, 0, none⟩) P.length cap ∧ g < w.heap.size ∧ ∀ i (h : i < P.length), ∃ av, w.cell? ⟨g, i, none⟩ = some av ∧ AlAt w av P[i]
theorem RgAt.keep {w w' : World} {v : Value} {P : List (List Tm)} {B : Nat} (h : RgAt w v P) (hB : w.heap.size ≤ B) (hb : Below B w w') : RgAt w' v P := by
  obtain ⟨g, cap, h1, h2, h3⟩ := h.ex
  refine ⟨g, cap, h1, Nat.lt_of_lt_of_le h2 hb.size, fun i hi => ?_⟩
  obtain ⟨av, k1, k2⟩ := h3 i hi
  exact ⟨av, (hb.cell (p := ⟨g, i, none⟩) (by show g < B; omega)).trans k1, k2.keep hB hb⟩
/-- What holds while the alternatives are gone through. -/
structure PoR (w wr : World) (B : Nat) (Q : List ByteArray) (k : Nat) (ov : Value) (P : List (List Tm)) : Prop where
  ow : ∃ vs : List Value, vs.length = P.length ∧ wr.ownsRow B 50 1 ov P.length vs ∧ ∀ i (h : i < P.length) (h' : i < vs.length), AlAt wr vs[i] P[i]
  eq : mapO altR (Q.map vb) = (mapO altR ((Q.map vb).drop k)).map (P ++ ·)
  len : P.length = k
  bs : B ≤ wr.heap.size
  old : Below w.heap.size w wr
theorem PoR.next {w wr w' : World} {B : Nat} {Q : List ByteArray} {k : Nat} {ov : Value} {P : List (List Tm)} (h : PoR w wr B Q k ov P) (hb : Below wr.heap.size wr w') : PoR w w' B Q k ov P := by
  obtain ⟨vs, h1, h2, h3⟩ := h.ow
  exact ⟨⟨vs, h1, own_below h2 hb, fun i hi hi' => (h3 i hi hi').keep (Nat.le_refl _) hb⟩, h.eq, h.len, Nat.le_trans h.bs hb.size, h.old.trans (hb.mono h.old.size)⟩
theorem one_tm (op : ByteArray) (v : Ver) (w : World) : (Instr.buildSlice 50 1 #[(0, .agg (tmC op v))]).run Tryd.prog w = .ok (.slice (some ⟨w.heap.size, 0, none⟩) 1 1) (w.alloc (.cells (tmC op v) 52)) := by
  obtain ⟨i0, hi, hz0, hz1, _⟩ := info_parts infoTz
  refine run_buildSlice w 50 52 1 _ _ i0 _ Tryd.underlying50 hi hz0 (by rw [hz1]; decide) (by rw [hz1]; decide) ?_
  rw [hz1]
  kernel_rfl
theorem infoA : (Tryd.prog.info? 50).map (fun i => (i.zero, i.size, i.bytes)) = some (some (.slice none 0 0), 1, 24) := by kernel_rfl
/-- A term is appended. -/
theorem wpList_ap_tm {w w1 : World} {ops : Array Oper} {rest : List Oper} {o : Oper} {a : Act} {Q : Exit → Act → World → Prop} (hgd : o.guard = none) (dd : Option Tmp) (hdd : o.dst = dd) (s x : Operand) (ho : o.op = .call { callee := .builtin .append, args := #[s, x], argTypes := #[50, 50] }) (B : Nat) (v : Value) (L : List Tm) (hs : a.eval s = v) (op : ByteArray) (u : Ver) (hw : w1 = w.alloc (.cells (tmC op u) 52)) (g : Nat) (hg : g = w.heap.size) (hown : w1.ownsRow B 52 7 v L.length (flatT L)) (hx : a.eval x = .slice (some ⟨g, 0, none⟩) 1 1) (hB : B ≤ w.heap.size) (hby : (L.length + 1) * 72 ≤ 140737488355328)
    (h : ∀ v' w', w'.ownsRow B 52 7 v' (L ++ [(vb op, u)]).length (flatT (L ++ [(vb op, u)])) → w1.grownBy w' v.ownBlock → wpList Tryd.prog ops Q rest (a.put dd v') w') : wpList Tryd.prog ops Q (o :: rest) a w1 := by
  subst hw hg
  refine wpList_plain hgd fun K hK => wp_append_any dd hdd s x 50 52 (.agg (tmC ⟨#[]⟩ zeroVer)) 7 72 Tryd.underlying50 infoTz rfl (by decide) ho B v L.length (flatT L) hs hown (some ⟨w.heap.size, 0, none⟩) w.heap.size 0 1 1 (encM (vb op, u)) rfl hx (fun _ => rfl) (fun j y hj => ?_) (fun y hy => ?_) (fun h => nomatch h) (by unfold maxLen; omega) hby (by simp; omega) (fun v' w' h1 h2 _ => hK _ _ (h v' w' (by rw [List.length_append, flatT_snoc]; exact h1) h2))
  · rw [Nat.zero_add, (Row.new w (tmC op u) 52).cell j, ← hj]
    show ((encT op u).toArray)[j]? = (encT (tx (vb op)) u)[j]?
    rw [tx_vb, List.getElem?_toArray]
  · have hk : (tmC (tx (vb op)) u).all (·.oneCell') = true := tm_one _ _
    exact Array.all_eq_true'.1 hk y (by simpa using hy)
/-- An alternative is appended. -/
theorem wpList_ap_al {w w1 : World} {ops : Array Oper} {rest : List Oper} {o : Oper} {a : Act} {Q : Exit → Act → World → Prop} (hgd : o.guard = none) (dd : Option Tmp) (hdd : o.dst = dd) (s x : Operand) (ho : o.op = .call { callee := .builtin .append, args := #[s, x], argTypes := #[27, 27] }) (B : Nat) (v : Value) (n : Nat) (xs : List Value) (hs : a.eval s = v) (y : Value) (hy1 : y.oneCell' = true) (hw : w1 = w.alloc (.cells #[y] 50)) (g : Nat) (hg : g = w.heap.size) (hown : w1.ownsRow B 50 1 v n xs) (hx : a.eval x = .slice (some ⟨g, 0, none⟩) 1 1) (hB : B ≤ w.heap.size) (hby : (n + 1) * 24 ≤ 140737488355328)
    (h : ∀ v' w', w'.ownsRow B 50 1 v' (n + 1) (xs ++ [y]) → w1.grownBy w' v.ownBlock → wpList Tryd.prog ops Q rest (a.put dd v') w') : wpList Tryd.prog ops Q (o :: rest) a w1 := by
  subst hw hg
  refine wpList_plain hgd fun K hK => wp_append_any dd hdd s x 27 50 (.slice none 0 0) 1 24 Tryd.underlying27 infoA rfl (by decide) ho B v n xs hs hown (some ⟨w.heap.size, 0, none⟩) w.heap.size 0 1 1 [y] rfl hx (fun _ => rfl) (fun j u hj => ?_) (fun u hu => ?_) (fun h => nomatch h) (by unfold maxLen; omega) hby (by simp; omega) (fun v' w' h1 h2 _ => hK _ _ (h v' w' h1 h2))
  · cases j with
    | zero => simp at hj; subst hj; exact (Row.cell (Row.new w #[y] 50) 0).trans rfl
    | succ j => simp at hj
  · simp at hu; subst hu; exact hy1
/-- What Parse tells. -/
def PrPost (r : Option (List (List Tm))) (w : World) (e : Ending) (w' : World) : Prop := (r = none ∧ e = .returned (.tuple #[.slice none 0 0, .int .i64 21]) ∧ Below w.heap.size w w') ∨ ∃ P v, r = some P ∧ e = .returned (.tuple #[v, .int .i64 0]) ∧ RgAt w' v P ∧ Below w.heap.size w w'
theorem grown_below {w w5 : World} {v : Value} {B : Nat} (hg : w.grownBy w5 v.ownBlock) (hB : B ≤ w.heap.size) (hr : ∀ k, v.ownBlock = some k → B ≤ k) : Below B w w5 := below_own' hg hB hr
theorem alt_len {Q : List ByteArray} {x : ByteArray} (h : Q.map vb = cutAll 44 (vb x)) : 1 ≤ Q.length := by
  have := cutAll_pos 44 (vb x)
  rw [← h, List.length_map] at this
  exact this
set_option maxRecDepth 40000 in
set_option maxHeartbeats 16000000 in
theorem refRange_ok (s : ByteArray) (w : World) (hs : s.size ≤ 4194304) : Calls Tryd.prog 6 #[.string s] w (PrPost (parseR (vb s)) w) := by
  have hc1 := refCut_ok 124 s w hs
  obtain ⟨R, hR⟩ : ∃ R, R = parseR (vb s) := ⟨_, rfl⟩
  rw [← hR]
  have HRR : Hid (R = if 16 < (cutAll 124 (vb s)).length then none else mapO altR (cutAll 124 (vb s))) := hR
  have HSZ : Hid (s.size ≤ 4194304) := hs
  clear hR hs
  go_enter Tryd.func6, Tryd.ntmps6
  go_wp2_with fail
  refine hc1.mono ?_
  rintro e w1 ⟨gq, Q, cq, rfl, hQ, hcell, hgq0, hgq, hb1, hcq, hQl, hQs⟩
  have HQ : Hid (Q.map vb = cutAll 124 (vb s)) := hQ
  have HB1 : Hid (Below w.heap.size w w1) := hb1
  have HC1 : Hid (∀ wx, Below w1.heap.size w1 wx → ∀ i (h : i < Q.length), wx.cell? ⟨gq, i, none⟩ = some (.string Q[i])) := fun wx hx i h => (hx.cell (p := ⟨gq, i, none⟩) hgq).trans (hcell i h)
  have HQS : Hid (∀ i (h : i < Q.length), Q[i].size ≤ 4194304) := fun i h => Nat.le_trans (hQs i h) HSZ.out
  obtain ⟨n, hn⟩ : ∃ n, n = Q.length := ⟨_, rfl⟩
  have HN : Hid (n = Q.length) := hn
  have hnn : Q.length = n := hn.symm
  have hn1 : n ≤ 4194305 := by have := HSZ.out; omega
  have HL : Hid ((cutAll 124 (vb s)).length = n) := by show _ = _; rw [← hQ, List.length_map, hnn]
  rw [hnn]
  rw [hnn] at hcq
  clear hc1 hQ hcell hgq0 hgq hb1 hQl hQs hn hnn
  by_cases h16 : 16 < n
  · have HNo : Hid (R = none) := by show _ = _; rw [HRR.out, HL.out, if_pos h16]
    have h16' : (16 : Int) < (n : Int) := by omega
    go_wp2
    go_ret2
    exact Or.inl ⟨HNo.out, rfl, HB1.out⟩
  · have h16' : ¬ (16 : Int) < (n : Int) := by omega
    have HR2 : Hid (R = mapO altR (Q.map vb)) := by show _ = _; rw [HRR.out, HL.out, if_neg h16, HQ.out]
    have H0 : Hid (PoR w w1 w1.heap.size Q 0 (.slice none 0 0) []) := ⟨⟨[], rfl, World.ownsRow_nil _ _ _ _, fun i h => absurd h (by simp)⟩, mapO_begin altR _, rfl, Nat.le_refl _, HB1.out⟩
    go_wp2
    go_loopw [4, 6] (fun ov iv wr => ∃ (k : Nat) (P : List (List Tm)), k ≤ n ∧ iv = .int .i64 k ∧ PoR w wr w1.heap.size Q k ov P ∧ Below w1.heap.size w1 wr) (fun _ iv _ => n - (intOf iv).toNat)
    case atStart => exact ⟨0, [], Nat.zero_le _, rfl, H0.out, Below.refl _ _⟩
    case round =>
      obtain ⟨k, P, hk, rfl, hPo, hB1r⟩ := hrel
      have HPo : Hid (PoR w wr w1.heap.size Q k u4 P) := hPo
      have HB1r : Hid (Below w1.heap.size w1 wr) := hB1r
      clear hPo hB1r H0
      by_cases hkn : k < n
      · have hkn' : (k : Int) < (n : Int) := by omega
        have hkQ : k < Q.length := by have := HN.out; omega
        have hcell := HC1.out wr HB1r.out k hkQ
        obtain ⟨x, hx⟩ : ∃ x, x = Q[k] := ⟨_, rfl⟩
        rw [← hx] at hcell
        have hxs : x.size ≤ 4194304 := by rw [hx]; exact HQS.out k hkQ
        have HX : Hid ((Q.map vb)[k]? = some (vb x)) := by show _ = _; rw [List.getElem?_map, List.getElem?_eq_getElem hkQ, hx]; rfl
        have HXL : Hid (k < (Q.map vb).length ∧ ∀ h : k < (Q.map vb).length, (Q.map vb)[k] = vb x) := ⟨by rw [List.length_map]; exact hkQ, fun h => by rw [List.getElem_map, hx]⟩
        have hc2 := refCut_ok 44 x wr hxs
        clear hx
        go_wp2_with fail
        refine hc2.mono ?_
        rintro e w2 ⟨gm, M, cm, rfl, hM, hcm2, hgm0, hgm, hb2, hcm, hMl, hMs⟩
        have HM : Hid (M.map vb = cutAll 44 (vb x)) := hM
        have HB12 : Hid (Below w1.heap.size w1 w2) := HB1r.out.trans (hb2.mono HB1r.out.size)
        have HPo2 : Hid (PoR w w2 w1.heap.size Q k u4 P) := PoR.next HPo.out hb2
        have HC2 : Hid (∀ wx, Below w2.heap.size w2 wx → ∀ i (h : i < M.length), wx.cell? ⟨gm, i, none⟩ = some (.string M[i])) := fun wx hx i h => (hx.cell (p := ⟨gm, i, none⟩) hgm).trans (hcm2 i h)
        have HMS : Hid (∀ i (h : i < M.length), M[i].size ≤ 4194304) := fun i h => Nat.le_trans (hMs i h) hxs
        have HM1 : Hid (1 ≤ M.length) := alt_len hM
        obtain ⟨m, hm⟩ : ∃ m, m = M.length := ⟨_, rfl⟩
        have HMN : Hid (m = M.length) := hm
        have hmm : M.length = m := hm.symm
        have HML : Hid ((cutAll 44 (vb x)).length = m) := by show _ = _; rw [← hM, List.length_map, hmm]
        rw [hmm]
        rw [hmm] at hcm
        clear hc2 hM hcm2 hgm0 hgm hb2 hMl hMs hm hmm hcell
        by_cases g16 : 16 < m
        · have HNo : Hid (R = none) := by
            show _ = _
            rw [HR2.out]
            refine mapO_stop (PoR.eq HPo.out) HXL.out.1 ?_
            rw [HXL.out.2 _]
            unfold altR
            rw [HML.out, if_pos g16]
          have g16' : (16 : Int) < (m : Int) := by omega
          have HBe : Hid (Below w.heap.size w w2) := PoR.old HPo2.out
          go_wp2
          go_ret2
          exact Or.inl ⟨HNo.out, rfl, HBe.out⟩
        · have g16' : ¬ (16 : Int) < (m : Int) := by omega
          have HAl : Hid (altR (vb x) = mapO termR (M.map vb)) := by show _ = _; unfold altR; rw [HML.out, if_neg g16, HM.out]
          have HI0 : Hid (w2.ownsRow w2.heap.size 52 7 (.slice none 0 0) ([] : List Tm).length (flatT [])) := World.ownsRow_nil _ _ _ _
          go_wp2
          go_loopw [8, 9] (fun xv jv wi => ∃ (j : Nat) (ts : List Tm), j ≤ m ∧ jv = .int .i64 j ∧ ts.length = j ∧ wi.ownsRow w2.heap.size 52 7 xv ts.length (flatT ts) ∧ Below w2.heap.size w2 wi ∧ Hid (mapO termR (M.map vb) = (mapO termR ((M.map vb).drop j)).map (ts ++ ·))) (fun _ jv _ => m - (intOf jv).toNat)
          case atStart => exact ⟨0, [], Nat.zero_le _, rfl, rfl, HI0.out, Below.refl _ _, mapO_begin termR _⟩
          case round =>
            obtain ⟨j, ts, hj, rfl, htl, hown, hb2i, HEq⟩ := hrel
            have HOwn : Hid (wr.ownsRow w2.heap.size 52 7 u8 ts.length (flatT ts)) := hown
            have HB2i : Hid (Below w2.heap.size w2 wr) := hb2i
            have HTL : Hid (ts.length = j) := htl
            clear hown hb2i htl HI0 HPo HB1r
            by_cases hjm : j < m
            · have hjm' : (j : Int) < (m : Int) := by omega
              have hjM : j < M.length := by have := HMN.out; omega
              have hcell := HC2.out wr HB2i.out j hjM
              obtain ⟨y, hy⟩ : ∃ y, y = M[j] := ⟨_, rfl⟩
              rw [← hy] at hcell
              have hys : y.size ≤ 4194304 := by rw [hy]; exact HMS.out j hjM
              have HY : Hid (j < (M.map vb).length ∧ ∀ h : j < (M.map vb).length, (M.map vb)[j] = vb y) := ⟨by rw [List.length_map]; exact hjM, fun h => by rw [List.getElem_map, hy]⟩
              have htm := refTerm_ok y wr hys
              obtain ⟨tr, htr⟩ : ∃ r, r = termR (vb y) := ⟨_, rfl⟩
              rw [← htr] at htm
              have HTr : Hid (tr = termR (vb y)) := htr
              clear hy htr
              go_wp2_with fail
              refine htm.mono ?_
              rintro e w3 ⟨op, v, rfl, hv, hb3⟩
              have HV : Hid (∀ t, tr = some t → t = (vb op, v)) := hv
              have hr4 : Row (w3.alloc (.cells (tmC op v) 52)) w3.heap.size (tmC op v) 52 := Row.new _ _ _
              have hb4 : Below wr.heap.size wr (w3.alloc (.cells (tmC op v) 52)) := hb3.alloc hb3.size _
              obtain ⟨w4, hw4⟩ : ∃ z, z = w3.alloc (.cells (tmC op v) 52) := ⟨_, rfl⟩
              rw [← hw4] at hr4 hb4
              have hw4' := hw4.symm
              have HB4 : Hid (Below wr.heap.size wr w4) := hb4
              clear htm hv hb3 hw4 hb4 hcell
              cases htr : tr with
              | none =>
                have HNo : Hid (R = none) := by
                  show _ = _
                  rw [HR2.out]
                  refine mapO_stop (PoR.eq HPo2.out) HXL.out.1 ?_
                  rw [HXL.out.2 _, HAl.out]
                  refine mapO_stop HEq.out HY.out.1 ?_
                  rw [HY.out.2 _, ← HTr.out, htr]
                have HBe : Hid (Below w.heap.size w w4) := (PoR.old HPo2.out).trans ((HB2i.out.trans (HB4.out.mono HB2i.out.size)).mono (PoR.old HPo2.out).size)
                have hsome : tr.isSome = false := by rw [htr]; rfl
                clear htr
                simp only [Option.isSome_none]
                go_wp2_with (refine wpList_store_new rfl 52 _ _ rfl w3 (tmC ⟨#[]⟩ zeroVer) (tmC op v) 52 rfl w3.heap.size rfl rfl rfl infoT rfl (tm_one _ _) ?_; rw [hw4'])
                go_ret2
                exact Or.inl ⟨HNo.out, rfl, HBe.out⟩
              | some t =>
                have HT : Hid (t = (vb op, v)) := HV.out t htr
                have HTe : Hid (termR (vb y) = some (vb op, v)) := by show _ = _; rw [← HTr.out, htr, HT.out]
                have hone := one_tm op v w4
                have hown5 : (w4.alloc (.cells (tmC op v) 52)).ownsRow w2.heap.size 52 7 u8 ts.length (flatT ts) := own_below (own_below HOwn.out HB4.out) ((Below.refl _ _).alloc (Nat.le_refl _) _)
                have hlow : w2.heap.size ≤ w4.heap.size := Nat.le_trans HB2i.out.size HB4.out.size
                have htsl : (ts.length + 1) * 72 ≤ 140737488355328 := by have := HTL.out; omega
                clear htr
                simp only [Option.isSome_some]
                go_wp2_with (first | (refine wpList_store_new rfl 52 _ _ rfl w3 (tmC ⟨#[]⟩ zeroVer) (tmC op v) 52 rfl w3.heap.size rfl rfl rfl infoT rfl (tm_one _ _) ?_; rw [hw4']) | refine wpList_load_row rfl 52 _ rfl w3.heap.size rfl 52 (tmC op v) (0, 0) _ hr4 Tryd.underlying52 rfl infoT ?_ | (at_builtin; refine wpList_ap_tm rfl (some 50) rfl _ _ rfl w2.heap.size u8 ts rfl op v rfl w4.heap.size rfl hown5 rfl hlow htsl ?_; intro v6 w6 ho6 hg6))
                have hb6 : Below w2.heap.size (w4.alloc (.cells (tmC op v) 52)) w6 := below_own' hg6 (by simp; omega) fun k hk => (own_block hown5 k hk).1
                have HB6 : Hid (Below w2.heap.size w2 w6) := ((HB2i.out.trans (HB4.out.mono HB2i.out.size)).alloc hlow _).trans hb6
                have HO6 : Hid (w6.ownsRow w2.heap.size 52 7 v6 (ts ++ [(vb op, v)]).length (flatT (ts ++ [(vb op, v)]))) := ho6
                have HEq6 : Hid (mapO termR (M.map vb) = (mapO termR ((M.map vb).drop (j + 1))).map ((ts ++ [(vb op, v)]) ++ ·)) := mapO_step HEq.out HY.out.1 (by rw [HY.out.2 _, HTe.out])
                clear ho6 hg6 hb6 hown5 hone
                go_roundw
                case rel => exact ⟨j + 1, ts ++ [(vb op, v)], by omega, by go_num, by rw [List.length_append, HTL.out]; rfl, HO6.out, HB6.out, HEq6.out⟩
                case measure => simp [intOf]; omega
            · have hjm' : ¬ (j : Int) < (m : Int) := by omega
              have HA : Hid (altR (vb x) = some ts) := by
                show _ = _
                rw [HAl.out]
                exact mapO_end HEq.out (by rw [List.length_map]; have := HMN.out; omega)
              have hal : AlAt wr u8 ts := al_own HOwn.out (by have := HTL.out; have := HM1.out; have := HMN.out; omega)
              obtain ⟨ga, ca, rfl, hga, hgaC, hgac⟩ := hal.ex
              have HAL : Hid (AlAt wr (.slice (some ⟨ga, 0, none⟩) ts.length ca) ts) := hal
              have HPi : Hid (PoR w wr w1.heap.size Q k u4 P) := PoR.next HPo2.out HB2i.out
              have HB1i : Hid (Below w1.heap.size w1 wr) := HB12.out.trans (HB2i.out.mono HB12.out.size)
              obtain ⟨vs, hvs1, hvs2, hvs3⟩ := (PoR.ow HPi.out)
              have HV1 : Hid (vs.length = P.length) := hvs1
              have HV3 : Hid (∀ i (h : i < P.length) (h' : i < vs.length), AlAt wr vs[i] P[i]) := hvs3
              obtain ⟨tl, htl⟩ : ∃ tl, tl = ts.length := ⟨_, rfl⟩
              rw [← htl] at HAL
              rw [← htl]
              have hown5 : (wr.alloc (.cells #[.slice (some ⟨ga, 0, none⟩) tl ca] 50)).ownsRow w1.heap.size 50 1 u4 P.length vs := own_below hvs2 ((Below.refl _ _).alloc (Nat.le_refl _) _)
              have hlow : w1.heap.size ≤ wr.heap.size := PoR.bs HPi.out
              have hPl : (P.length + 1) * 24 ≤ 140737488355328 := by have := PoR.len HPi.out; omega
              have HO4 : Hid (wr.ownsRow w1.heap.size 50 1 u4 P.length vs) := hvs2
              clear hvs1 hvs2 hvs3 hal hga hgaC hgac htl
              go_wp2_with (at_builtin; refine wpList_ap_al rfl (some 54) rfl _ _ rfl w1.heap.size u4 P.length vs rfl (.slice (some ⟨ga, 0, none⟩) tl ca) rfl rfl wr.heap.size rfl hown5 rfl hlow hPl ?_; intro v6 w6 ho6 hg6)
              have hob := own_block hown5
              have hrw := ownsRow_row hown5
              have hba : Below wr.heap.size wr (wr.alloc (.cells #[.slice (some ⟨ga, 0, none⟩) tl ca] 50)) := (Below.refl _ _).alloc (Nat.le_refl _) _
              have hb6 : Below w1.heap.size wr w6 := (hba.mono hlow).trans (below_own' hg6 (by simp; omega) fun k hk => (hob k hk).1)
              have HPo6 : Hid (PoR w w6 w1.heap.size Q (k + 1) v6 (P ++ [ts])) := by
                refine ⟨⟨vs ++ [.slice (some ⟨ga, 0, none⟩) tl ca], by rw [List.length_append, List.length_append, HV1.out]; rfl, by rw [List.length_append]; exact ho6, fun i hi hi' => ?_⟩, mapO_step (PoR.eq HPi.out) HXL.out.1 (by rw [HXL.out.2 _, HA.out]), by rw [List.length_append, PoR.len HPi.out]; rfl, Nat.le_trans hlow hb6.size, (PoR.old HPi.out).trans (hb6.mono (Nat.le_trans HB1.out.size (Nat.le_refl _)))⟩
                by_cases hiP : i < P.length
                · rw [List.getElem_append_left hiP, List.getElem_append_left (by rw [HV1.out]; exact hiP)]
                  exact ((HV3.out i hiP (by rw [HV1.out]; exact hiP)).keep (Nat.le_refl _) hba).grown hg6 hrw
                · have hie : i = P.length := by rw [List.length_append] at hi; simp at hi; omega
                  subst hie
                  rw [List.getElem_append_right (Nat.le_refl _), List.getElem_append_right (by rw [HV1.out]; exact Nat.le_refl _)]
                  simp only [HV1.out, Nat.sub_self, List.getElem_cons_zero]
                  exact (HAL.out.keep (Nat.le_refl _) hba).grown hg6 hrw
              have HB1n : Hid (Below w1.heap.size w1 w6) := HB1i.out.trans hb6
              clear ho6 hg6 hb6 hown5 hob hrw hba
              go_roundw
              case rel => exact ⟨k + 1, P ++ [ts], by omega, by go_num, HPo6.out, HB1n.out⟩
              case measure => simp [intOf]; omega
      · have hkn' : ¬ (k : Int) < (n : Int) := by omega
        have HYes : Hid (R = some P) := by
          show _ = _
          rw [HR2.out]
          exact mapO_end (PoR.eq HPo.out) (by rw [List.length_map]; have := HN.out; omega)
        have HRg : Hid (RgAt wr u4 P) := by
          obtain ⟨vs, h1, h2, h3⟩ := (PoR.ow HPo.out)
          have hp := cutAll_pos 124 (vb s)
          have hPl := PoR.len HPo.out
          have h2' := h2
          obtain ⟨_, ⟨_, h0⟩ | ⟨g, cap, cur, rfl, k2, k3, _⟩⟩ := h2
          · have := HL.out; omega
          · refine ⟨g, cap, rfl, (Array.getElem?_eq_some_iff.1 k3).1, fun i hi => ⟨vs[i]'(by omega), ?_, h3 i hi (by omega)⟩⟩
            rw [h2'.cellAt i (by omega)]
            exact List.getElem?_eq_getElem (by omega)
        have HBe : Hid (Below w.heap.size w wr) := PoR.old HPo.out
        go_wp2
        go_ret2
        exact Or.inr ⟨P, u4, HYes.out, rfl, HRg.out, HBe.out⟩
end Go.Proofs.YtdhmlcelofnkgaaDoor
namespace Go.Proofs.YtdhmlcelofnkgaaDoor
open Go.RowKit
section
variable {P : Program} {ops : Array Oper} {C : World → Prop} {Q : Act → Prop} {a : Act} {o : Oper} {rest : List Oper}
theorem q_load_mid (ty : TypeId) (x : Operand) (ho : o.op = .load ty x) (hw : Region.wanted o (yielded ops a.tmps) = true) (b off : Nat) (cs : List Value) (d : TypeDesc) (hx : a.eval x = .pointer (some ⟨b, off, none⟩))
    (hC : ∀ w, C w → w.rangeAt b off cs) (hu : P.underlying ty = some d) (hd : d.isRow = true) (hi : (P.info? ty).map (·.size) = some cs.length)
    (k : wpQuiet P ops C Q rest (a.put o.dst (.agg cs.toArray))) : wpQuiet P ops C Q (o :: rest) a :=
  q_value (.agg cs.toArray) hw (fun w hw' => by
    unfold execOp
    simp only [ho, hx, Instr.loadAt, Instr.sureAddr, Sem.run_bind, Sem.run_pure, Result.andThen_ok, run_loadVar_mid w b off ty cs d (hC w hw') hu hd hi]) k
end
/-- Terms that may be. -/
def TmOk (t : Tm) : Prop := (t.1 = [42] ∨ (t.1 ∈ signsR ∧ May t.2)) ∧ t.2.tag.size ≤ 140737488355328
theorem mapO_mem {α β : Type} {f : α → Option β} : ∀ {L : List α} {D : List β}, mapO f L = some D → ∀ d ∈ D, ∃ l ∈ L, f l = some d := by
  intro L
  induction L with
  | nil => intro D h d hd; cases h; cases hd
  | cons x r ih =>
    intro D h d hd
    cases hx : f x with
    | none => rw [mapO_none hx] at h; cases h
    | some a =>
      rw [mapO_cons hx] at h
      cases hr : mapO f r with
      | none => rw [hr] at h; cases h
      | some l =>
        rw [hr] at h
        cases h
        rcases List.mem_cons.1 hd with rfl | hd
        · exact ⟨x, List.mem_cons_self, hx⟩
        · obtain ⟨y, h1, h2⟩ := ih hr d hd
          exact ⟨y, List.mem_cons_of_mem _ h1, h2⟩
theorem may_tag {v : Ver} (h : May v) : v.tag.size ≤ 140737488355328 := by
  rcases h.tag with h | h
  · rw [← vb_len, h]; decide
  · unfold tagB at h
    rw [Bool.and_eq_true, decide_eq_true_eq] at h
    have := h.1.2
    rw [← vb_len]
    omega
theorem termR_ok {l : By} {t : Tm} (h : termR l = some t) : TmOk t := by
  rcases term_pair l with ⟨h1, _⟩ | ⟨op, v, L, h1, _, h3⟩
  · rw [h1] at h; cases h
  · rw [h1] at h
    cases h
    rcases h3 with ⟨h4, h5, _⟩ | ⟨h4, h5, _⟩
    · exact ⟨Or.inl h4, by show v.tag.size ≤ _; rw [h5]; decide⟩
    · exact ⟨Or.inr ⟨h4, h5⟩, may_tag h5⟩
theorem parseR_ok {l : By} {P : List (List Tm)} (h : parseR l = some P) : ∀ a ∈ P, ∀ t ∈ a, TmOk t := by
  unfold parseR at h
  split at h
  · cases h
  · intro a ha t ht
    obtain ⟨y, _, hy⟩ := mapO_mem h a ha
    unfold altR at hy
    split at hy
    · cases hy
    · obtain ⟨z, _, hz⟩ := mapO_mem hy t ht
      exact termR_ok hz
theorem parseR_small {l : By} {P : List (List Tm)} (h : parseR l = some P) : P.length ≤ 16 ∧ ∀ a ∈ P, a.length ≤ 16 := by
  have hlen : ∀ {α β : Type} {f : α → Option β} {L : List α} {D : List β}, mapO f L = some D → D.length = L.length := by
    intro α β f L
    induction L with
    | nil => intro D h; cases h; rfl
    | cons x r ih =>
      intro D h
      cases hx : f x with
      | none => rw [mapO_none hx] at h; cases h
      | some a =>
        rw [mapO_cons hx] at h
        cases hr : mapO f r with
        | none => rw [hr] at h; cases h
        | some l => rw [hr] at h; cases h; rw [List.length_cons, List.length_cons, ih hr]
  unfold parseR at h
  split at h
  · cases h
  · rename_i h16
    refine ⟨by rw [hlen h]; omega, fun a ha => ?_⟩
    obtain ⟨y, _, hy⟩ := mapO_mem h a ha
    unfold altR at hy
    split at hy
    · cases hy
    · rename_i k16
      rw [hlen hy]
      omega
set_option maxRecDepth 40000 in
set_option maxHeartbeats 8000000 in
theorem refHasR_ok {v : Value} {P : List (List Tm)} {w : World} (hP : RgAt w v P) (hok : ∀ a ∈ P, ∀ t ∈ a, TmOk t) (hl : P.length ≤ 16 ∧ ∀ a ∈ P, a.length ≤ 16) (x : Ver) : Calls Tryd.prog 10 #[v, verV x] w fun e w' => e = .returned (.bool (hasR P x)) ∧ Below w.heap.size w w' := by
  have hb0 : Below w.heap.size w (w.alloc (.cells (verC x) 33)) := (Below.refl _ _).alloc (Nat.le_refl _) _
  have hr0 : Row (w.alloc (.cells (verC x) 33)) w.heap.size (verC x) 33 := Row.new _ _ _
  have hP0 := hP.keep (Nat.le_refl _) hb0
  obtain ⟨w0, hw0⟩ : ∃ y, y = w.alloc (.cells (verC x) 33) := ⟨_, rfl⟩
  have hw0' := hw0.symm
  rw [← hw0] at hb0 hr0 hP0
  obtain ⟨g, cap, rfl, hg, hrows⟩ := hP0.ex
  have HB0 : Hid (Below w.heap.size w w0) := hb0
  have HR0 : Hid (Row w0 w.heap.size (verC x) 33) := hr0
  have HRows : Hid (∀ i (h : i < P.length), ∃ av, w0.cell? ⟨g, i, none⟩ = some av ∧ AlAt w0 av P[i]) := hrows
  have HG : Hid (g < w0.heap.size) := hg
  have HOk : Hid (∀ a ∈ P, ∀ t ∈ a, TmOk t) := hok
  have HLn : Hid (∀ a ∈ P, a.length ≤ 16) := hl.2
  have hl1 := hl.1
  obtain ⟨R, hR⟩ : ∃ R, R = hasR P x := ⟨_, rfl⟩
  have HRe : Hid (R = hasR P x) := hR
  rw [← hR]
  obtain ⟨n, hn⟩ : ∃ n, n = P.length := ⟨_, rfl⟩
  have HN : Hid (n = P.length) := hn
  rw [← hn]
  rw [← hn] at hl1
  clear hb0 hr0 hP0 hw0 hrows hok hl hP hg hR hn
  go_enter Tryd.func10, Tryd.ntmps10
  go_wp2
  clear hw0'
  go_loopw [5] (fun iv wr => ∃ i : Nat, i ≤ n ∧ iv = .int .i64 i ∧ Below w0.heap.size w0 wr ∧ Hid (hasR (P.drop i) x = R)) (fun iv _ => n - (intOf iv).toNat)
  case atStart => exact ⟨0, Nat.zero_le _, rfl, Below.refl _ _, by rw [List.drop_zero]; exact HRe.out.symm⟩
  case round =>
    obtain ⟨i, hi, rfl, hb, HI⟩ := hrel
    have HB : Hid (Below w0.heap.size w0 wr) := hb
    clear hb
    by_cases hin : i < n
    · have hin' : (i : Int) < (n : Int) := by omega
      have hiP : i < P.length := by have := HN.out; omega
      obtain ⟨av, hav, hal⟩ := HRows.out i hiP
      obtain ⟨a, ha⟩ : ∃ a, a = P[i] := ⟨_, rfl⟩
      rw [← ha] at hal
      have HDrop : Hid (hasR (P.drop i) x = (hasA a x || hasR (P.drop (i + 1)) x)) := by
        show _ = _
        rw [List.drop_eq_getElem_cons hiP, ← ha]
        rfl
      have HOka : Hid (∀ t ∈ a, TmOk t) := HOk.out a (by rw [ha]; exact List.getElem_mem _)
      have hal16 : a.length ≤ 16 := HLn.out a (by rw [ha]; exact List.getElem_mem _)
      obtain ⟨ga, ca, rfl, hga, _, hrg0⟩ := hal.ex
      have HGA : Hid (ga < w0.heap.size) := hga
      have HRG : Hid (∀ k (h : k < a.length), w0.rangeAt ga (k * 7) (encM a[k])) := hrg0
      obtain ⟨al, hal2⟩ : ∃ al, al = a.length := ⟨_, rfl⟩
      have HAL : Hid (al = a.length) := hal2
      rw [← hal2] at hav hal16
      have HCell : Hid (∀ wx, Below w0.heap.size w0 wx → wx.cell? ⟨g, i, none⟩ = some (.slice (some ⟨ga, 0, none⟩) al ca)) := fun wx hx => (hx.cell (p := ⟨g, i, none⟩) HG.out).trans hav
      clear hal ha hga hrg0 hal2 hav
      go_wp2
      go_loopw [6, 7] (fun bv kv wi => ∃ (k : Nat) (b : Bool), k ≤ al ∧ kv = .int .i64 k ∧ bv = .bool b ∧ Below w0.heap.size w0 wi ∧ Hid ((b && hasA (a.drop k) x) = hasA a x)) (fun _ kv _ => al - (intOf kv).toNat)
      case atStart => exact ⟨0, true, Nat.zero_le _, rfl, rfl, HB.out, by rw [List.drop_zero]; rfl⟩
      case round =>
        obtain ⟨k, b, hk, rfl, rfl, hb, HK⟩ := hrel
        have hcell := HCell.out wr hb
        have HBi : Hid (Below w0.heap.size w0 wr) := hb
        clear hb
        by_cases hka : k < al
        · have hka' : (k : Int) < (al : Int) := by omega
          have hkA : k < a.length := by have := HAL.out; omega
          obtain ⟨t, ht⟩ : ∃ t, t = a[k] := ⟨_, rfl⟩
          have HDr : Hid (hasA (a.drop k) x = (hasO t.1 t.2 x && hasA (a.drop (k + 1)) x)) := by
            show _ = _
            rw [List.drop_eq_getElem_cons hkA, ← ht]
            rfl
          cases b with
          | true =>
            have htok : TmOk t := HOka.out t (by rw [ht]; exact List.getElem_mem _)
            have hrg : wr.rangeAt ga (k * 7) (encM t) := fun j u hj => (HBi.out.cell (p := ⟨ga, k * 7 + j, none⟩) HGA.out).trans (HRG.out k hkA j u (by rw [← ht]; exact hj))
            have hglt : g < wr.heap.size := Nat.lt_of_lt_of_le HG.out HBi.out.size
            have hgalt : ga < wr.heap.size := Nat.lt_of_lt_of_le HGA.out HBi.out.size
            have hbox : Row wr w.heap.size (verC x) 33 := Row.below HR0.out HBi.out (Row.lt HR0.out)
            obtain ⟨r, hr⟩ : ∃ r, r = hasO t.1 t.2 x := ⟨_, rfl⟩
            have HHas : Hid (∀ wx, Calls Tryd.prog 23 #[.agg (tmC (tx t.1) t.2), verV x] wx fun e w' => e = .returned (.bool r) ∧ Below wx.heap.size wx w') := fun wx => by
              have h := refHas_ok (op := tx t.1) (u := t.2) (by rw [vb_tx]; exact htok.1) htok.2 x wx
              rw [vb_tx, ← hr] at h
              exact h
            have HK2 : Hid ((r && hasA (a.drop (k + 1)) x) = hasA a x) := by
              show _ = _
              rw [hr, ← HDr.out]
              have h := HK.out
              rw [Bool.true_and] at h
              exact h
            clear ht htok hr
            go_wp2
            refine wp_region_quiet (C := fun wx => Below wr.heap.size wr wx) (by kernel_rfl) (by kernel_rfl) ((Below.refl _ _).drew) ?_
            simp only []
            refine q_value ?_ (by rfl) (fun wx hw => ?_) ?_
            rotate_left
            · go_simp
              with_reducible rfl
            simp only [Act.put, List.setIfInBounds_toArray, List.set_cons_zero, List.set_cons_succ]
            refine q_value ?_ (by rfl) (fun wx hw => ?_) ?_
            rotate_left
            · go_simp
              with_reducible rfl
            simp only [Act.put, List.setIfInBounds_toArray, List.set_cons_zero, List.set_cons_succ]
            refine q_value ?_ (by rfl) (fun wx hw => ?_) ?_
            rotate_left
            · go_simp
              with_reducible rfl
            simp only [Act.put, List.setIfInBounds_toArray, List.set_cons_zero, List.set_cons_succ]
            refine q_value ?_ (by rfl) (fun wx hw => ?_) ?_
            rotate_left
            · go_simp
              with_reducible rfl
            simp only [Act.put, List.setIfInBounds_toArray, List.set_cons_zero, List.set_cons_succ]
            refine q_value ?_ (by rfl) (fun wx hw => ?_) ?_
            rotate_left
            · go_simp
              with_reducible rfl
            simp only [Act.put, List.setIfInBounds_toArray, List.set_cons_zero, List.set_cons_succ]
            refine q_value (.slice (some ⟨ga, 0, none⟩) al ca) (by rfl) (fun wx hw => ?_) ?_
            · have hc := (hw.cell (p := ⟨g, i, none⟩) hglt).trans hcell
              go_simp
            simp only [Act.put, List.setIfInBounds_toArray, List.set_cons_zero, List.set_cons_succ]
            refine q_value ?_ (by rfl) (fun wx hw => ?_) ?_
            rotate_left
            · go_simp
              with_reducible rfl
            simp only [Act.put, List.setIfInBounds_toArray, List.set_cons_zero, List.set_cons_succ]
            refine q_value ?_ (by rfl) (fun wx hw => ?_) ?_
            rotate_left
            · go_simp
              with_reducible rfl
            simp only [Act.put, List.setIfInBounds_toArray, List.set_cons_zero, List.set_cons_succ]
            refine q_load_mid 52 _ rfl (by rfl) ga (k * 7) (encM t) _ rfl (fun wx hw => fun j u hj => (hw.cell (p := ⟨ga, k * 7 + j, none⟩) hgalt).trans (hrg j u hj)) Tryd.underlying52 rfl infoT ?_
            simp only [Act.put, List.setIfInBounds_toArray, List.set_cons_zero, List.set_cons_succ]
            refine q_load 33 _ rfl (by rfl) w.heap.size (verC x) 33 _ rfl (fun wx hw => Row.below hbox hw (Row.lt hbox)) Tryd.underlying33 rfl infoRs ?_
            simp only [Act.put, List.setIfInBounds_toArray, List.set_cons_zero, List.set_cons_succ]
            refine q_call (.bool r) (by rfl) 23 #[.agg (tmC (tx t.1) t.2), verV x] (fun w h => by go_simp) (fun wx hw => (HHas.out wx).mono fun e w' ⟨he, hb⟩ => ⟨he, hw.trans (hb.mono hw.size)⟩) ?_
            simp only [Act.put, List.setIfInBounds_toArray, List.set_cons_zero, List.set_cons_succ]
            refine q_value ?_ (by rfl) (fun wx hw => ?_) ?_
            rotate_left
            · go_simp
              with_reducible rfl
            simp only [Act.put, List.setIfInBounds_toArray, List.set_cons_zero, List.set_cons_succ]
            refine q_value ?_ (by rfl) (fun wx hw => ?_) ?_
            rotate_left
            · go_simp
              with_reducible rfl
            simp only [Act.put, List.setIfInBounds_toArray, List.set_cons_zero, List.set_cons_succ]
            refine wpQuiet_nil ?_
            intro wB hB
            try simp only [Exit.then]
            have HBB : Hid (Below w0.heap.size w0 wB) := HBi.out.trans (hB.mono HBi.out.size)
            clear hB hrg hcell hbox
            go_wp2
            go_roundw
            case rel => exact ⟨k + 1, r, by omega, by go_num, rfl, HBB.out, HK2.out⟩
            case measure => simp [intOf]; omega
          | false =>
            have HK2 : Hid ((false && hasA (a.drop (k + 1)) x) = hasA a x) := HK.out
            have HBn : Hid (∀ q, Below w0.heap.size w0 (wr.drewN q)) := fun q => HBi.out.trans ⟨rfl, rfl, rfl, Nat.le_refl _, fun _ _ => rfl⟩
            clear ht
            go_wp2
            go_quiet (fail)
            go_wp2
            go_roundw
            case rel => exact ⟨k + 1, false, by omega, by go_num, rfl, HBn.out _, HK2.out⟩
            case measure => simp [intOf]; omega
        · have hka' : ¬ (k : Int) < (al : Int) := by omega
          have HbA : Hid (b = hasA a x) := by
            have h := HK.out
            rw [List.drop_of_length_le (by have := HAL.out; omega)] at h
            show _ = _
            rw [← h]
            exact (Bool.and_true b).symm
          cases b with
          | true =>
            have HRT : Hid (R = true) := by show _ = _; rw [← HI.out, HDrop.out, ← HbA.out]; rfl
            have HBf : Hid (Below w.heap.size w wr) := HB0.out.trans (HBi.out.mono HB0.out.size)
            go_wp2
            go_ret
            exact ⟨by rw [HRT.out]; rfl, HBf.out⟩
          | false =>
            have HIn : Hid (hasR (P.drop (i + 1)) x = R) := by
              have h := HI.out
              rw [HDrop.out, ← HbA.out, Bool.false_or] at h
              exact h
            go_wp2
            go_roundw
            case rel => exact ⟨i + 1, by omega, by go_num, HBi.out, HIn.out⟩
            case measure => simp [intOf]; omega
    · have hin' : ¬ (i : Int) < (n : Int) := by omega
      have HRF : Hid (R = false) := by
        have h := HI.out
        rw [List.drop_of_length_le (by have := HN.out; omega)] at h
        exact h.symm
      have HBf : Hid (Below w.heap.size w wr) := HB0.out.trans (HB.out.mono HB0.out.size)
      go_wp2
      go_ret
      exact ⟨by rw [HRF.out]; rfl, HBf.out⟩
end Go.Proofs.YtdhmlcelofnkgaaDoor
namespace Go.Proofs.YtdhmlcelofnkgaaDoor
open Go.RowKit

theorem q_skip {P : Program} {ops : Array Oper} {C : World → Prop} {Q : Act → Prop} {a : Act} {o : Oper} {rest : List Oper} (hw : Region.wanted o (yielded ops a.tmps) = false) (k : wpQuiet P ops C Q rest (a.put o.dst undef)) : wpQuiet P ops C Q (o :: rest) a :=
  BigFrame.wpQuiet_skip hw k
theorem names14 (w : World) : Calls Tryd.prog 7 #[] w fun e w' => e = .returned (.bool true) ∧ w' = w := by
  go_enter Tryd.func7, Tryd.ntmps7
  go_wp2
  go_ret
  exact ⟨rfl, rfl⟩
set_option maxRecDepth 40000 in
set_option maxHeartbeats 16000000 in
theorem law_parses14 (s : ByteArray) (hs : s.size ≤ 4194304) (L : List Ver) (la : Option Addr) (lc : Nat) (w : World) (hL : VsIn w la L lc) (hll : L.length < 9223372036854775807) (hT : Pw w) (hts : ∀ v ∈ L, v.tag.size ≤ 140737488355328) : Calls Tryd.prog 3 #[.string s, .slice la L.length lc] w fun e w' => e = .returned (.bool true) ∧ Below w.heap.size w w' := by
  have h1 := rangeParse_ok s w (by omega)
  have HP : Hid (∀ wx, Calls Tryd.prog 6 #[.string s] wx (PrPost (parseR (vb s)) wx)) := fun wx => refRange_ok s wx hs
  have HPair := range_pair (vb s)
  have HT : Hid (Pw w) := hT
  obtain ⟨vg, vo, hv1, hv2⟩ := hL.ex
  have HV1 : Hid (0 < L.length → la = some ⟨vg, vo, none⟩) := fun h => (hv1 h).1
  have HV2 : Hid (∀ wx, Below w.heap.size w wx → ∀ i (h : i < L.length), wx.rangeAt vg (vo + i * 6) (encV1 L[i])) := fun wx hx i h => range_below (hv2 i h) hx (hv1 (by omega)).2
  have HVG : Hid (0 < L.length → vg < w.heap.size) := fun h => (hv1 h).2
  have HTS : Hid (∀ v ∈ L, v.tag.size ≤ 140737488355328) := hts
  have hlc := hL.le
  obtain ⟨m, hm⟩ : ∃ m, m = L.length := ⟨_, rfl⟩
  have HM : Hid (m = L.length) := hm
  have hmm : L.length = m := hm.symm
  rw [hmm]
  rw [hmm] at hlc hll
  clear hs hT hv1 hv2 hL hm hmm hts
  rcases HPair with ⟨pn, rn⟩ | ⟨P, A, ps, rs, hok, hhas⟩
  · rw [rn] at h1
    rw [pn] at HP
    clear pn rn
    go_enter Tryd.func3, Tryd.ntmps3
    go_wp2_with fail
    refine h1.mono ?_
    rintro e w1 (⟨_, rfl, hb1⟩ | ⟨_, _, h, _⟩)
    · have HB1 : Hid (Below w.heap.size w w1) := hb1
      clear h1 hb1
      go_wp2_with fail
      refine Calls.mono (HP.out w1) ?_
      rintro e w2 (⟨_, rfl, hb2⟩ | ⟨_, _, h, _⟩)
      · have HB2 : Hid (Below w.heap.size w w2) := HB1.out.trans (hb2.mono HB1.out.size)
        clear HP hb2
        have hnm := names14 w2
        go_wp2_with fail
        refine hnm.mono ?_
        rintro e w3 ⟨rfl, hw3⟩
        rw [hw3]
        clear hw3 hnm
        go_wp2
        go_ret
        exact ⟨rfl, HB2.out⟩
      · cases h
    · cases h
  · rw [rs] at h1
    rw [ps] at HP
    have HOk : Hid (∀ a ∈ P, ∀ t ∈ a, TmOk t) := parseR_ok ps
    have HSm : Hid (P.length ≤ 16 ∧ ∀ a ∈ P, a.length ≤ 16) := parseR_small ps
    have HHas : Hid (∀ x, mayV x = true → hasV A x = hasR P x) := hhas
    clear ps rs hok hhas
    go_enter Tryd.func3, Tryd.ntmps3
    go_wp2_with fail
    refine h1.mono ?_
    rintro e w1 (⟨h, _⟩ | ⟨A1, x, hA, rfl, hx, hxl, hb1⟩)
    · cases h
    · obtain rfl : A = A1 := Option.some.inj hA
      have HB1 : Hid (Below w.heap.size w w1) := hb1
      have HX1 : Hid (Gd w1 x A 578) := ⟨hx, hxl⟩
      obtain ⟨gx, vx, rfl, _⟩ := hx.at'.ex
      clear h1 hb1 hx hxl hA
      go_wp2_with fail
      refine Calls.mono (HP.out w1) ?_
      rintro e w2 (⟨h, _⟩ | ⟨P1, y, hP1, rfl, hrg1, hb2⟩)
      · cases h
      · obtain rfl : P = P1 := Option.some.inj hP1
        have HB2 : Hid (Below w.heap.size w w2) := HB1.out.trans (hb2.mono HB1.out.size)
        have HX2 : Hid (Gd w2 (.pointer (some ⟨gx, 0, none⟩)) A 578) := Gd.next HX1.out hb2
        have HY2 : Hid (RgAt w2 y P) := hrg1
        obtain ⟨gy, cy, hyv, _⟩ := hrg1.ex
        have HT2 : Hid (Pw w2) := Pw.keep HT.out HB2.out (Pw.lt HT.out)
        have hnm := names14 w2
        clear HP hb2 hrg1 hP1 HX1 HB1
        subst hyv
        go_wp2_with fail
        refine hnm.mono ?_
        rintro e w3 ⟨rfl, hw3⟩
        rw [hw3]
        clear hw3 hnm
        obtain ⟨y, hy⟩ : ∃ y, y = (Value.slice (some ⟨gy, 0, none⟩) P.length cy) := ⟨_, rfl⟩
        rw [← hy] at HY2
        rw [← hy]
        clear hy
        go_wp2
        go_loopw [9] (fun iv wq => ∃ i : Nat, i ≤ m ∧ i ≤ 200 ∧ iv = .int .i64 i ∧ Below w2.heap.size w2 wq) (fun iv _ => m - (intOf iv).toNat)
        case atStart => exact ⟨0, Nat.zero_le _, Nat.zero_le _, rfl, Below.refl _ _⟩
        case round =>
          obtain ⟨i, hi, hi2, rfl, hb⟩ := hrel
          have HB : Hid (Below w2.heap.size w2 wr) := hb
          have HBw : Hid (Below w.heap.size w wr) := HB2.out.trans (hb.mono HB2.out.size)
          clear hb
          by_cases hin : i < m
          · have hin' : (i : Int) < (m : Int) := by omega
            by_cases h200 : i < 200
            · have h200' : (i : Int) < 200 := by omega
              have hiL : i < L.length := by have := HM.out; omega
              obtain rfl := HV1.out (by omega)
              have hrg := HV2.out wr HBw.out i hiL
              obtain ⟨v, hv⟩ : ∃ v, v = L[i] := ⟨_, rfl⟩
              have hvt : v.tag.size ≤ 140737488355328 := HTS.out v (by rw [hv]; exact List.getElem_mem _)
              have hvglt : vg < w.heap.size := HVG.out (by omega)
              rw [← hv] at hrg
              obtain ⟨kb, hkb⟩ : ∃ k, k = wr.heap.size := ⟨_, rfl⟩
              have hkb' := hkb.symm
              obtain ⟨wA, hwA⟩ : ∃ z, z = wr.alloc (.cells (verC v) 33) := ⟨_, rfl⟩
              have hbA : Below wr.heap.size wr wA := by rw [hwA]; exact (Below.refl _ _).alloc (Nat.le_refl _) _
              have hrA : Row wA kb (verC v) 33 := by rw [hwA, hkb]; exact Row.new _ _ _
              have HBA : Hid (Below w2.heap.size w2 wA) := HB.out.trans (hbA.mono HB.out.size)
              have HNX : Hid (∀ wx w', (Gd wx (.pointer (some ⟨gx, 0, none⟩)) A 578 ∧ Pw wx ∧ (Row wx kb (verC v) 33 ∧ RgAt wx y P) ∧ wx.rangeAt vg (vo + i * 6) (encV1 v) ∧ Below w2.heap.size w2 wx) → Below wx.heap.size wx w' → (Gd w' (.pointer (some ⟨gx, 0, none⟩)) A 578 ∧ Pw w' ∧ (Row w' kb (verC v) 33 ∧ RgAt w' y P) ∧ w'.rangeAt vg (vo + i * 6) (encV1 v) ∧ Below w2.heap.size w2 w')) := fun wx w' h hb => ⟨Gd.next h.1 hb, Pw.keep h.2.1 hb (Pw.lt h.2.1), ⟨Row.below h.2.2.1.1 hb (Row.lt h.2.2.1.1), h.2.2.1.2.keep (Nat.le_refl _) hb⟩, range_below h.2.2.2.1 hb (World.block_lt_of_cell? wx ⟨vg, vo + i * 6 + 0, none⟩ (h.2.2.2.1 0 _ rfl)), h.2.2.2.2.trans (hb.mono h.2.2.2.2.size)⟩
              have HCl : Hid (Gd wA (.pointer (some ⟨gx, 0, none⟩)) A 578 ∧ Pw wA ∧ (Row wA kb (verC v) 33 ∧ RgAt wA y P) ∧ wA.rangeAt vg (vo + i * 6) (encV1 v) ∧ Below w2.heap.size w2 wA) := ⟨Gd.next HX2.out HBA.out, Pw.keep HT2.out HBA.out (Pw.lt HT2.out), ⟨hrA, RgAt.keep HY2.out (Nat.le_refl _) HBA.out⟩, range_below hrg hbA (Nat.lt_of_lt_of_le hvglt HBw.out.size), HBA.out⟩
              have hwA' := hwA.symm
              have HMy0 : Hid (∀ wx, Calls Tryd.prog 9 #[verV v] wx fun e w' => e = .returned (.bool (mayV v)) ∧ Below wx.heap.size wx w') := fun wx => (refMay_ok v wx hvt).mono fun e w' ⟨he, hw⟩ => ⟨he, by rw [hw]; exact (Below.refl _ _).alloc (Nat.le_refl _) _⟩
              clear hv hvt hbA hrA hwA hvglt hkb
              by_cases hm : mayV v = true
              · obtain ⟨p, hp⟩ : ∃ p, hasV A v = p := ⟨_, rfl⟩
                have HHp : Hid (hasV A v = p) := hp
                have HMy : Hid (∀ wx, Calls Tryd.prog 9 #[verV v] wx fun e w' => e = .returned (.bool true) ∧ Below wx.heap.size wx w') := by rw [hm] at HMy0; exact HMy0
                have HRh : Hid (∀ wx, RgAt wx y P → Calls Tryd.prog 10 #[y, verV v] wx fun e w' => e = .returned (.bool p) ∧ Below wx.heap.size wx w') := fun wx h => by
                  have h2 := refHasR_ok h HOk.out HSm.out v
                  rw [← HHas.out v hm, hp] at h2
                  exact h2
                clear hp hm HMy0
                go_wp2_with (first | refine wpList_load_mid rfl 34 _ rfl vg (vo + i * 6) rfl _ _ hrg Tryd.underlying34 rfl infoVs ?_ | (refine wpList_store_new rfl 33 _ _ rfl wr zeroC (verC v) 33 rfl wr.heap.size rfl rfl rfl infoRs rfl (verC_one _) ?_; rw [hwA']; rw [hkb']))
                refine wp_region_quiet (C := fun wx => Gd wx (.pointer (some ⟨gx, 0, none⟩)) A 578 ∧ Pw wx ∧ (Row wx kb (verC v) 33 ∧ RgAt wx y P) ∧ wx.rangeAt vg (vo + i * 6) (encV1 v) ∧ Below w2.heap.size w2 wx) (by kernel_rfl) (by kernel_rfl) (HNX.out _ _ HCl.out ((Below.refl _ _).drew)) ?_
                simp only []
                refine q_value ?_ (by rfl) (fun wx hw => ?_) ?_
                rotate_left
                · go_simp
                  with_reducible rfl
                simp only [Act.put, List.setIfInBounds_toArray, List.set_cons_zero, List.set_cons_succ]
                refine q_value ?_ (by rfl) (fun wx hw => ?_) ?_
                rotate_left
                · go_simp
                  with_reducible rfl
                simp only [Act.put, List.setIfInBounds_toArray, List.set_cons_zero, List.set_cons_succ]
                refine q_value ?_ (by rfl) (fun wx hw => ?_) ?_
                rotate_left
                · go_simp
                  with_reducible rfl
                simp only [Act.put, List.setIfInBounds_toArray, List.set_cons_zero, List.set_cons_succ]
                refine q_value ?_ (by rfl) (fun wx hw => ?_) ?_
                rotate_left
                · go_simp
                  with_reducible rfl
                simp only [Act.put, List.setIfInBounds_toArray, List.set_cons_zero, List.set_cons_succ]
                refine q_load_mid 34 _ rfl (by rfl) vg (vo + i * 6) (encV1 v) _ rfl (fun wx hw => hw.2.2.2.1) Tryd.underlying34 rfl infoVs ?_
                simp only [Act.put, List.setIfInBounds_toArray, List.set_cons_zero, List.set_cons_succ]
                refine q_call (.bool p) (by rfl) 8 #[.pointer (some ⟨gx, 0, none⟩), verV v] (fun w h => by go_simp) (fun wx hw => (Gd.has hw.1 (by omega) hw.2.1 v p HHp.out).mono fun e w' ⟨he, hb⟩ => ⟨he, HNX.out _ _ hw hb⟩) ?_
                simp only [Act.put, List.setIfInBounds_toArray, List.set_cons_zero, List.set_cons_succ]
                refine q_load 33 _ rfl (by rfl) kb (verC v) 33 _ rfl (fun wx hw => hw.2.2.1.1) Tryd.underlying33 rfl infoRs ?_
                simp only [Act.put, List.setIfInBounds_toArray, List.set_cons_zero, List.set_cons_succ]
                refine q_call (.bool true) (by rfl) 9 #[verV v] (fun w h => by go_simp) (fun wx hw => (HMy.out wx).mono fun e w' ⟨he, hb⟩ => ⟨he, HNX.out _ _ hw hb⟩) ?_
                simp only [Act.put, List.setIfInBounds_toArray, List.set_cons_zero, List.set_cons_succ]
                refine q_value ?_ (by rfl) (fun wx hw => ?_) ?_
                rotate_left
                · go_simp
                  with_reducible rfl
                simp only [Act.put, List.setIfInBounds_toArray, List.set_cons_zero, List.set_cons_succ]
                refine q_value ?_ (by rfl) (fun wx hw => ?_) ?_
                rotate_left
                · go_simp
                  with_reducible rfl
                simp only [Act.put, List.setIfInBounds_toArray, List.set_cons_zero, List.set_cons_succ]
                refine q_load 33 _ rfl (by rfl) kb (verC v) 33 _ rfl (fun wx hw => hw.2.2.1.1) Tryd.underlying33 rfl infoRs ?_
                simp only [Act.put, List.setIfInBounds_toArray, List.set_cons_zero, List.set_cons_succ]
                refine q_call (.bool p) (by rfl) 10 #[y, verV v] (fun w h => by go_simp) (fun wx hw => (HRh.out wx hw.2.2.1.2).mono fun e w' ⟨he, hb⟩ => ⟨he, HNX.out _ _ hw hb⟩) ?_
                simp only [Act.put, List.setIfInBounds_toArray, List.set_cons_zero, List.set_cons_succ]
                refine q_value ?_ (by rfl) (fun wx hw => ?_) ?_
                rotate_left
                · go_simp
                  with_reducible rfl
                simp only [Act.put, List.setIfInBounds_toArray, List.set_cons_zero, List.set_cons_succ]
                refine q_value ?_ (by rfl) (fun wx hw => ?_) ?_
                rotate_left
                · go_simp
                  with_reducible rfl
                simp only [Act.put, List.setIfInBounds_toArray, List.set_cons_zero, List.set_cons_succ]
                refine wpQuiet_nil ?_
                intro wB hB
                try simp only [Exit.then]
                have HBB : Hid (Below w2.heap.size w2 wB) := hB.2.2.2.2
                clear hB hrg
                go_wp2
                go_roundw
                case rel => exact ⟨i + 1, by omega, by omega, by go_num, HBB.out⟩
                case measure => simp [intOf]; omega
              · have hm' : mayV v = false := by simpa using hm
                have HHp : Hid (hasV A v = false) := by show _ = _; unfold hasV; rw [hm']; rfl
                have HMy : Hid (∀ wx, Calls Tryd.prog 9 #[verV v] wx fun e w' => e = .returned (.bool false) ∧ Below wx.heap.size wx w') := by rw [hm'] at HMy0; exact HMy0
                clear hm hm' HMy0
                go_wp2_with (first | refine wpList_load_mid rfl 34 _ rfl vg (vo + i * 6) rfl _ _ hrg Tryd.underlying34 rfl infoVs ?_ | (refine wpList_store_new rfl 33 _ _ rfl wr zeroC (verC v) 33 rfl wr.heap.size rfl rfl rfl infoRs rfl (verC_one _) ?_; rw [hwA']; rw [hkb']))
                refine wp_region_quiet (C := fun wx => Gd wx (.pointer (some ⟨gx, 0, none⟩)) A 578 ∧ Pw wx ∧ (Row wx kb (verC v) 33 ∧ RgAt wx y P) ∧ wx.rangeAt vg (vo + i * 6) (encV1 v) ∧ Below w2.heap.size w2 wx) (by kernel_rfl) (by kernel_rfl) (HNX.out _ _ HCl.out ((Below.refl _ _).drew)) ?_
                simp only []
                refine q_value ?_ (by rfl) (fun wx hw => ?_) ?_
                rotate_left
                · go_simp
                  with_reducible rfl
                simp only [Act.put, List.setIfInBounds_toArray, List.set_cons_zero, List.set_cons_succ]
                refine q_value ?_ (by rfl) (fun wx hw => ?_) ?_
                rotate_left
                · go_simp
                  with_reducible rfl
                simp only [Act.put, List.setIfInBounds_toArray, List.set_cons_zero, List.set_cons_succ]
                refine q_value ?_ (by rfl) (fun wx hw => ?_) ?_
                rotate_left
                · go_simp
                  with_reducible rfl
                simp only [Act.put, List.setIfInBounds_toArray, List.set_cons_zero, List.set_cons_succ]
                refine q_value ?_ (by rfl) (fun wx hw => ?_) ?_
                rotate_left
                · go_simp
                  with_reducible rfl
                simp only [Act.put, List.setIfInBounds_toArray, List.set_cons_zero, List.set_cons_succ]
                refine q_load_mid 34 _ rfl (by rfl) vg (vo + i * 6) (encV1 v) _ rfl (fun wx hw => hw.2.2.2.1) Tryd.underlying34 rfl infoVs ?_
                simp only [Act.put, List.setIfInBounds_toArray, List.set_cons_zero, List.set_cons_succ]
                refine q_call (.bool false) (by rfl) 8 #[.pointer (some ⟨gx, 0, none⟩), verV v] (fun w h => by go_simp) (fun wx hw => (Gd.has hw.1 (by omega) hw.2.1 v false HHp.out).mono fun e w' ⟨he, hb⟩ => ⟨he, HNX.out _ _ hw hb⟩) ?_
                simp only [Act.put, List.setIfInBounds_toArray, List.set_cons_zero, List.set_cons_succ]
                refine q_load 33 _ rfl (by rfl) kb (verC v) 33 _ rfl (fun wx hw => hw.2.2.1.1) Tryd.underlying33 rfl infoRs ?_
                simp only [Act.put, List.setIfInBounds_toArray, List.set_cons_zero, List.set_cons_succ]
                refine q_call (.bool false) (by rfl) 9 #[verV v] (fun w h => by go_simp) (fun wx hw => (HMy.out wx).mono fun e w' ⟨he, hb⟩ => ⟨he, HNX.out _ _ hw hb⟩) ?_
                simp only [Act.put, List.setIfInBounds_toArray, List.set_cons_zero, List.set_cons_succ]
                refine q_value ?_ (by rfl) (fun wx hw => ?_) ?_
                rotate_left
                · go_simp
                  with_reducible rfl
                simp only [Act.put, List.setIfInBounds_toArray, List.set_cons_zero, List.set_cons_succ]
                refine q_skip (by rfl) ?_
                simp only [Act.put, List.setIfInBounds_toArray, List.set_cons_zero, List.set_cons_succ]
                refine q_skip (by rfl) ?_
                simp only [Act.put, List.setIfInBounds_toArray, List.set_cons_zero, List.set_cons_succ]
                refine q_skip (by rfl) ?_
                simp only [Act.put, List.setIfInBounds_toArray, List.set_cons_zero, List.set_cons_succ]
                refine q_value ?_ (by rfl) (fun wx hw => ?_) ?_
                rotate_left
                · go_simp
                  with_reducible rfl
                simp only [Act.put, List.setIfInBounds_toArray, List.set_cons_zero, List.set_cons_succ]
                refine q_value ?_ (by rfl) (fun wx hw => ?_) ?_
                rotate_left
                · go_simp
                  with_reducible rfl
                simp only [Act.put, List.setIfInBounds_toArray, List.set_cons_zero, List.set_cons_succ]
                refine wpQuiet_nil ?_
                intro wB hB
                try simp only [Exit.then]
                have HBB : Hid (Below w2.heap.size w2 wB) := hB.2.2.2.2
                clear hB hrg
                go_wp2
                go_roundw
                case rel => exact ⟨i + 1, by omega, by omega, by go_num, HBB.out⟩
                case measure => simp [intOf]; omega
            · have h200' : ¬ (i : Int) < 200 := by omega
              go_wp2
              go_ret
              exact ⟨rfl, HBw.out⟩
          · have hin' : ¬ (i : Int) < (m : Int) := by omega
            go_wp2
            go_ret
            exact ⟨rfl, HBw.out⟩
end Go.Proofs.YtdhmlcelofnkgaaDoor
namespace Go.Proofs.YtdhmlcelofnkgaaDoor
theorem bulk_str {H : Type} (b : List UInt8) : Rows.uptoBulk (DataW.lit (H := H) (.string b)) = b.length + 1 := by simp [Rows.uptoBulk]
theorem bulk_bound {H : Type} {l : List (DataW H)} (hk : Rows.uptoSmall H l = true) : Rows.uptoBulkAll l ≤ 1048576 := of_decide_eq_true hk
end Go.Proofs.YtdhmlcelofnkgaaDoor
