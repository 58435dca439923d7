/- My own work: term. -/
import Derived.Test.YtkbhckjpmgkgjaaGreatDoorST1
import Derived.Test.YtkbhckjpmgkgjaaGreatDoorVB
namespace Go.Proofs.YtkbhckjpmgkgjaaGreatDoor
open Go.RowKit

theorem beg_lt (s : Int) (v : Ver) (hs : s = 1 ∨ s = 2) : lt beg ⟨s, v⟩ := by
  unfold lt
  have : cls ⟨s, v⟩ = 1 := by unfold cls; rw [if_neg (by show ¬ s = 0; omega), if_neg (by show ¬ s = 3; omega)]
  rw [ord_cls (by rw [this]; decide), this]
  decide
theorem lt_fin (s : Int) (v : Ver) (hs : s = 1 ∨ s = 2) : lt ⟨s, v⟩ fin := by
  unfold lt
  have : cls ⟨s, v⟩ = 1 := by unfold cls; rw [if_neg (by show ¬ s = 0; omega), if_neg (by show ¬ s = 3; omega)]
  rw [ord_cls (by rw [this]; decide), this]
  decide
theorem lt_same (v : Ver) : lt ⟨1, v⟩ ⟨2, v⟩ := by
  unfold lt
  rw [ord_side (a := ⟨1, v⟩) (b := ⟨2, v⟩) rfl rfl]
  show cmpI 1 2 < 0
  decide
theorem bump_may {v : Ver} (h : May v) {m : Nat} (hm : 1 ≤ m ∧ m ≤ 4) (hx : nAt v (m - 1) ≠ 999999999) : May (bumpV v m) := by
  have := h.n0
  have := h.n1
  have := h.n2
  have := h.n3
  have hm' : m = 1 ∨ m = 2 ∨ m = 3 ∨ m = 4 := by omega
  have e : vb (⟨#[]⟩ : ByteArray) = [] := rfl
  rcases hm' with rfl | rfl | rfl | rfl
  · have : v.n0 ≠ 999999999 := hx
    exact ⟨by show (1 : Int) ≤ 1 ∧ (1 : Int) ≤ 4; omega, Or.inl e, by show 0 ≤ v.n0 + 1 ∧ v.n0 + 1 ≤ 999999999 ∧ ((1 : Int) ≤ 0 → v.n0 + 1 = 0); omega, ⟨Int.le_refl 0, by show (0 : Int) ≤ 999999999; omega, fun _ => rfl⟩, ⟨Int.le_refl 0, by show (0 : Int) ≤ 999999999; omega, fun _ => rfl⟩, ⟨Int.le_refl 0, by show (0 : Int) ≤ 999999999; omega, fun _ => rfl⟩⟩
  · have : v.n1 ≠ 999999999 := hx
    exact ⟨by show (1 : Int) ≤ 2 ∧ (2 : Int) ≤ 4; omega, Or.inl e, by show 0 ≤ v.n0 ∧ v.n0 ≤ 999999999 ∧ ((2 : Int) ≤ 0 → v.n0 = 0); omega, by show 0 ≤ v.n1 + 1 ∧ v.n1 + 1 ≤ 999999999 ∧ ((2 : Int) ≤ 1 → v.n1 + 1 = 0); omega, ⟨Int.le_refl 0, by show (0 : Int) ≤ 999999999; omega, fun _ => rfl⟩, ⟨Int.le_refl 0, by show (0 : Int) ≤ 999999999; omega, fun _ => rfl⟩⟩
  · have : v.n2 ≠ 999999999 := hx
    exact ⟨by show (1 : Int) ≤ 3 ∧ (3 : Int) ≤ 4; omega, Or.inl e, by show 0 ≤ v.n0 ∧ v.n0 ≤ 999999999 ∧ ((3 : Int) ≤ 0 → v.n0 = 0); omega, by show 0 ≤ v.n1 ∧ v.n1 ≤ 999999999 ∧ ((3 : Int) ≤ 1 → v.n1 = 0); omega, by show 0 ≤ v.n2 + 1 ∧ v.n2 + 1 ≤ 999999999 ∧ ((3 : Int) ≤ 2 → v.n2 + 1 = 0); omega, ⟨Int.le_refl 0, by show (0 : Int) ≤ 999999999; omega, fun _ => rfl⟩⟩
  · have : v.n3 ≠ 999999999 := hx
    exact ⟨by show (1 : Int) ≤ 4 ∧ (4 : Int) ≤ 4; omega, Or.inl e, by show 0 ≤ v.n0 ∧ v.n0 ≤ 999999999 ∧ ((4 : Int) ≤ 0 → v.n0 = 0); omega, by show 0 ≤ v.n1 ∧ v.n1 ≤ 999999999 ∧ ((4 : Int) ≤ 1 → v.n1 = 0); omega, by show 0 ≤ v.n2 ∧ v.n2 ≤ 999999999 ∧ ((4 : Int) ≤ 2 → v.n2 = 0); omega, by show 0 ≤ v.n3 + 1 ∧ v.n3 + 1 ≤ 999999999 ∧ ((4 : Int) ≤ 3 → v.n3 + 1 = 0); omega⟩
theorem ahead_good {v : Ver} (h : May v) (n : Int) : CutOk (aheadB v n) ∧ lt ⟨1, v⟩ (aheadB v n) := by
  unfold aheadB
  by_cases h0 : (bumpR v n).2 = 0
  · rw [if_pos h0]
    unfold bumpR at h0 ⊢
    rw [(mayV_iff v).2 h] at h0 ⊢
    simp only [if_true] at h0 ⊢
    by_cases hn : 1 ≤ n ∧ n ≤ 4
    · rw [if_pos hn] at h0 ⊢
      by_cases hx : nAt v (n.toNat - 1) = 999999999
      · rw [if_pos hx] at h0
        exact absurd h0 (by decide)
      · rw [if_neg hx]
        have hm := bump_may h (m := n.toNat) (by omega) hx
        refine ⟨Or.inr (Or.inr ⟨Or.inl rfl, hm⟩), ?_⟩
        have hc := bump_above v v n.toNat (by omega) (fun _ _ => rfl)
        have ha := preV.anti (bumpV v n.toNat) v
        unfold lt
        rw [ord_ver (a := ⟨1, v⟩) (b := ⟨1, bumpV v n.toNat⟩) rfl (fun e => ?_)]
        · show cmpV v (bumpV v n.toNat) < 0
          omega
        · have e' : v = bumpV v n.toNat := e
          rw [← e', (cmpV_zero v v).2 rfl] at hc
          exact absurd hc (by decide)
    · rw [if_neg hn] at h0
      exact absurd h0 (by decide)
  · rw [if_neg h0]
    exact ⟨fin_ok, lt_fin 1 v (Or.inl rfl)⟩
/-- What a sign and a version mean. -/
def opS (op : By) (v : Ver) : Option (List Cut) :=
  if op = [62, 61] then some [⟨1, v⟩, fin] else if op = [62] then some [⟨2, v⟩, fin] else if op = [60, 61] then some [beg, ⟨2, v⟩] else if op = [60] then some [beg, ⟨1, v⟩] else if op = [61] then some [⟨1, v⟩, ⟨2, v⟩] else if op = [94] then some [⟨1, v⟩, aheadB v (firstP v)] else if op = [126] then some [⟨1, v⟩, aheadB v (min v.cnt 2)] else none
/-- What a term means. -/
def termS (l : By) : Option (List Cut) := if l = [42] then some allC else match l.findIdx? digB with
  | none => none
  | some k => match parseV (l.drop k) with
    | none => none
    | some v => opS (l.take k) v
theorem ok1 {v : Ver} (h : May v) : CutOk ⟨1, v⟩ := Or.inr (Or.inr ⟨Or.inl rfl, h⟩)
theorem ok2 {v : Ver} (h : May v) : CutOk ⟨2, v⟩ := Or.inr (Or.inr ⟨Or.inr rfl, h⟩)
theorem opS_ok {op : By} {v : Ver} {L : List Cut} (hv : May v) (h : opS op v = some L) : SetOk L ∧ L.length = 2 := by
  unfold opS at h
  split at h
  · cases h; exact ⟨piece_ok (ok1 hv) fin_ok (lt_fin 1 v (Or.inl rfl)), rfl⟩
  · split at h
    · cases h; exact ⟨piece_ok (ok2 hv) fin_ok (lt_fin 2 v (Or.inr rfl)), rfl⟩
    · split at h
      · cases h; exact ⟨piece_ok beg_ok (ok2 hv) (beg_lt 2 v (Or.inr rfl)), rfl⟩
      · split at h
        · cases h; exact ⟨piece_ok beg_ok (ok1 hv) (beg_lt 1 v (Or.inl rfl)), rfl⟩
        · split at h
          · cases h; exact ⟨piece_ok (ok1 hv) (ok2 hv) (lt_same v), rfl⟩
          · split at h
            · cases h; exact ⟨piece_ok (ok1 hv) (ahead_good hv _).1 (ahead_good hv _).2, rfl⟩
            · split at h
              · cases h; exact ⟨piece_ok (ok1 hv) (ahead_good hv _).1 (ahead_good hv _).2, rfl⟩
              · cases h
theorem termS_ok {l : By} {L : List Cut} (h : termS l = some L) : SetOk L ∧ L.length = 2 := by
  unfold termS at h
  split at h
  · cases h; exact ⟨all_ok, rfl⟩
  · split at h
    · cases h
    · split at h
      · cases h
      · rename_i v hv
        exact opS_ok (parse_back hv).1 h
/-- What a reader of sets tells. -/
def RdPost (r : Option (List Cut)) (w : World) (e : Ending) (w' : World) : Prop := (r = none ∧ e = .returned (.tuple #[.pointer none, .bool false]) ∧ Below w.heap.size w w') ∨ ∃ L p, r = some L ∧ e = .returned (.tuple #[p, .bool true]) ∧ SetAt w' p L w'.heap.size ∧ Below w.heap.size w w'
section
variable {P : Program} {ops : Array Oper} {S : World → Prop} {Q : Act → World → Prop} {a : Act} {w : World} {o : Oper} {i : Nat} {fs : List (Bool × Nat)}
theorem a_load_row (dd : Option Tmp) (ty : TypeId) (x : Operand) (hi : ops[i]? = some o) (hd' : o.dst = dd) (ho : o.op = .load ty x) (hw : Region.wanted o (yielded ops a.tmps) = true) (g : Nat) (hx : a.eval x = .pointer (some ⟨g, 0, none⟩)) (cs : Array Value) (t : TypeId) (d : TypeDesc)
    (hC : ∀ w, S w → Row w g cs t) (hu : P.underlying ty = some d) (hd : (match d with | .struct _ | .array _ _ => true | _ => false) = true) (hs : (P.info? ty).map (·.size) = some cs.size)
    (k : wpPermA P ops S Q fs (a.put dd (.agg cs)) w) : wpPermA P ops S Q ((false, i) :: fs) a w :=
  a_value dd (.agg cs) hi hd' hw (fun w hw' => by
    unfold execOp
    simp only [ho, hx, Instr.loadAt, Instr.sureAddr, Sem.run_bind, Sem.run_pure, Result.andThen_ok, run_loadVar_row w g t ty cs (0, 0) d (hC w hw') hu hd hs]) k
end
theorem bytes_ne {x : ByteArray} {l : By} (h : ¬ vb x = l) : ¬ x.toList = l ∧ (x.toList == l) = false := by
  have h1 : ¬ x.toList = l := fun e => h (by rw [← e, ByteArray.toList_eq])
  exact ⟨h1, by simpa using h1⟩
theorem findIdx_fdig (l : By) : (l.findIdx? digB = none ∧ fdig l = -1) ∨ ∃ k : Nat, l.findIdx? digB = some k ∧ fdig l = (k : Int) ∧ k < l.length := by
  unfold fdig
  cases h : l.findIdx? digB with
  | none => exact Or.inl ⟨rfl, rfl⟩
  | some k => exact Or.inr ⟨k, rfl, rfl, (List.findIdx?_eq_some_iff_getElem.1 h).1⟩
theorem vb_headX (s : ByteArray) (k : Nat) : vb (s.extract 0 k) = (vb s).take k := by rw [vb_extract, List.drop_zero]
theorem vb_rest (s : ByteArray) (k : Nat) : vb (s.extract k s.size) = (vb s).drop k := by rw [vb_extract, List.take_of_length_le (by rw [vb_len]; omega)]
set_option maxRecDepth 40000 in
set_option maxHeartbeats 8000000 in
theorem term_ok (s : ByteArray) (hs : s.size ≤ 140737488355328) (w : World) : Calls Tryz.prog 111 #[.string s] w (RdPost (termS (vb s)) w) := by
  by_cases h42 : vb s = [42]
  · obtain rfl : s = ⟨#[42]⟩ := vb_inj h42
    have HT : Hid (termS (vb ⟨#[42]⟩) = some allC) := rfl
    have ha := all_new w
    clear h42 hs
    go_enter Tryz.func111, Tryz.ntmps111
    go_wp2_with fail
    refine ha.mono ?_
    rintro e w1 ⟨p, rfl, h1, h2⟩
    clear ha
    go_wp2
    go_ret2
    exact Or.inr ⟨allC, p, HT.out, rfl, h1, h2⟩
  · obtain ⟨hq1, hq2⟩ := bytes_ne h42
    have hany := any_ok s hs w
    have HT : Hid (termS (vb s) = match (vb s).findIdx? digB with
      | none => none
      | some k => match parseV ((vb s).drop k) with
        | none => none
        | some v => opS ((vb s).take k) v) := by show _ = _; unfold termS; rw [if_neg h42]
    rcases findIdx_fdig (vb s) with ⟨f1, f2⟩ | ⟨k, f1, f2, f3⟩
    · rw [f2] at hany
      have HN : Hid (termS (vb s) = none) := by show _ = _; rw [HT.out, f1]
      clear f1 f2 h42 HT
      go_enter Tryz.func111, Tryz.ntmps111
      go_wp2_with fail
      refine hany.mono ?_
      rintro e w1 ⟨rfl, hb1⟩
      clear hany
      go_wp2
      go_ret2
      exact Or.inl ⟨HN.out, rfl, hb1⟩
    · rw [f2] at hany
      rw [vb_len] at f3
      have HP : Hid (∀ wx, Calls Tryz.prog 54 #[.string (s.extract k s.size)] wx fun e w' => e = .returned (parseE (s.extract k s.size)) ∧ Below wx.heap.size wx w') := fun wx => parse_ok _ wx (by rw [ByteArray.size_extract]; omega)
      rw [f1] at HT
      have HT2 : Hid (termS (vb s) = match parseV (vb (s.extract k s.size)) with
        | none => none
        | some v => opS (vb (s.extract 0 k)) v) := by show _ = _; rw [HT.out, vb_headX, vb_rest]
      have hk0 : ¬ (k : Int) < 0 := by omega
      have hkz : (k : Int) ≤ (s.size : Int) := by omega
      obtain ⟨t, ht⟩ : ∃ t, t = s.extract k s.size := ⟨_, rfl⟩
      rw [← ht] at HP HT2
      have hts := ht.symm
      clear f1 f2 HT h42 ht
      cases hp : parseV (vb t) with
      | none =>
        have HN : Hid (termS (vb s) = none) := by show _ = _; rw [HT2.out, hp]
        rw [parseE_no hp] at HP
        clear hp HT2
        go_enter Tryz.func111, Tryz.ntmps111
        go_wp2_with fail
        refine hany.mono ?_
        rintro e w1 ⟨rfl, hb1⟩
        have hpa := HP.out w1
        have HB1 : Hid (Below w.heap.size w w1) := hb1
        clear hany HP hb1
        go_wp2_with fail
        refine hpa.mono ?_
        rintro e w2 ⟨rfl, hb2⟩
        have HB2 : Hid (Below w.heap.size w (w2.alloc (.cells (verC zeroV) 112))) := HB1.out.trans ((hb2.mono HB1.out.size).trans ((Below.refl _ _).alloc (Nat.le_trans HB1.out.size hb2.size) _))
        clear hpa hb2
        go_wp2_with (refine wpList_store_new rfl 112 _ _ rfl w2 zeroC (verC zeroV) 112 rfl w2.heap.size rfl rfl rfl infoVs rfl (verC_one _) ?_)
        go_ret2
        exact Or.inl ⟨HN.out, rfl, HB2.out⟩
      | some v =>
        have hmay : May v := (parse_back hp).1
        have HMay : Hid (May v) := hmay
        have HT3 : Hid (termS (vb s) = opS (vb (s.extract 0 k)) v) := by show _ = _; rw [HT2.out, hp]
        rw [parseE_yes hp] at HP
        clear hp HT2 hmay
        obtain ⟨x, hx⟩ : ∃ x, x = s.extract 0 k := ⟨_, rfl⟩
        rw [← hx] at HT3
        have hxs := hx.symm
        clear hx
        by_cases h0 : vb x = [62, 61]
        · have HR : Hid (termS (vb s) = some [⟨1, v⟩, fin]) := by
            show _ = _
            rw [HT3.out]
            unfold opS
            rw [if_pos h0]
          obtain rfl : x = ⟨#[62, 61]⟩ := vb_inj h0
          clear HT3 h0
          go_enter Tryz.func111, Tryz.ntmps111
          go_wp2_with fail
          refine hany.mono ?_
          rintro e w1 ⟨rfl, hb1⟩
          have hpa := HP.out w1
          have HB1 : Hid (Below w.heap.size w w1) := hb1
          clear hany HP hb1
          go_wp2_with fail
          refine hpa.mono ?_
          rintro e w2 ⟨rfl, hb2⟩
          have hb3 : Below w.heap.size w (w2.alloc (.cells (verC v) 112)) := HB1.out.trans ((hb2.mono HB1.out.size).trans ((Below.refl _ _).alloc (Nat.le_trans HB1.out.size hb2.size) _))
          have hr3 : Row (w2.alloc (.cells (verC v) 112)) w2.heap.size (verC v) 112 := Row.new _ _ _
          obtain ⟨w3, hw3⟩ : ∃ y, y = w2.alloc (.cells (verC v) 112) := ⟨_, rfl⟩
          rw [← hw3] at hb3 hr3
          have hw3' := hw3.symm
          have HB3 : Hid (Below w.heap.size w w3) := hb3
          clear hpa hb2 hb3 hw3
          have hpc := piece_new ⟨1, v⟩ fin w3
          go_wp2_with (first | (refine wpList_store_new rfl 112 _ _ rfl w2 zeroC (verC v) 112 rfl w2.heap.size rfl rfl rfl infoVs rfl (verC_one _) ?_; rw [hw3']) | refine wpList_load_row rfl 112 _ rfl w2.heap.size rfl 112 (verC v) (0, 0) _ hr3 Tryz.underlying112 rfl infoVs ?_ | fail)
          refine hpc.mono ?_
          rintro e w4 ⟨p, rfl, h1, h2⟩
          clear hpc
          go_wp2
          go_ret2
          exact Or.inr ⟨_, p, HR.out, rfl, h1, HB3.out.trans (h2.mono HB3.out.size)⟩
        · skip
          by_cases h1 : vb x = [62]
          · have HR : Hid (termS (vb s) = some [⟨2, v⟩, fin]) := by
              show _ = _
              rw [HT3.out]
              unfold opS
              rw [if_neg h0, if_pos h1]
            obtain rfl : x = ⟨#[62]⟩ := vb_inj h1
            clear HT3 h0 h1
            go_enter Tryz.func111, Tryz.ntmps111
            go_wp2_with fail
            refine hany.mono ?_
            rintro e w1 ⟨rfl, hb1⟩
            have hpa := HP.out w1
            have HB1 : Hid (Below w.heap.size w w1) := hb1
            clear hany HP hb1
            go_wp2_with fail
            refine hpa.mono ?_
            rintro e w2 ⟨rfl, hb2⟩
            have hb3 : Below w.heap.size w (w2.alloc (.cells (verC v) 112)) := HB1.out.trans ((hb2.mono HB1.out.size).trans ((Below.refl _ _).alloc (Nat.le_trans HB1.out.size hb2.size) _))
            have hr3 : Row (w2.alloc (.cells (verC v) 112)) w2.heap.size (verC v) 112 := Row.new _ _ _
            obtain ⟨w3, hw3⟩ : ∃ y, y = w2.alloc (.cells (verC v) 112) := ⟨_, rfl⟩
            rw [← hw3] at hb3 hr3
            have hw3' := hw3.symm
            have HB3 : Hid (Below w.heap.size w w3) := hb3
            clear hpa hb2 hb3 hw3
            have hpc := piece_new ⟨2, v⟩ fin w3
            go_wp2_with (first | (refine wpList_store_new rfl 112 _ _ rfl w2 zeroC (verC v) 112 rfl w2.heap.size rfl rfl rfl infoVs rfl (verC_one _) ?_; rw [hw3']) | refine wpList_load_row rfl 112 _ rfl w2.heap.size rfl 112 (verC v) (0, 0) _ hr3 Tryz.underlying112 rfl infoVs ?_ | fail)
            refine hpc.mono ?_
            rintro e w4 ⟨p, rfl, h1, h2⟩
            clear hpc
            go_wp2
            go_ret2
            exact Or.inr ⟨_, p, HR.out, rfl, h1, HB3.out.trans (h2.mono HB3.out.size)⟩
          · skip
            by_cases h2 : vb x = [60, 61]
            · have HR : Hid (termS (vb s) = some [beg, ⟨2, v⟩]) := by
                show _ = _
                rw [HT3.out]
                unfold opS
                rw [if_neg h0, if_neg h1, if_pos h2]
              obtain rfl : x = ⟨#[60, 61]⟩ := vb_inj h2
              clear HT3 h0 h1 h2
              go_enter Tryz.func111, Tryz.ntmps111
              go_wp2_with fail
              refine hany.mono ?_
              rintro e w1 ⟨rfl, hb1⟩
              have hpa := HP.out w1
              have HB1 : Hid (Below w.heap.size w w1) := hb1
              clear hany HP hb1
              go_wp2_with fail
              refine hpa.mono ?_
              rintro e w2 ⟨rfl, hb2⟩
              have hb3 : Below w.heap.size w (w2.alloc (.cells (verC v) 112)) := HB1.out.trans ((hb2.mono HB1.out.size).trans ((Below.refl _ _).alloc (Nat.le_trans HB1.out.size hb2.size) _))
              have hr3 : Row (w2.alloc (.cells (verC v) 112)) w2.heap.size (verC v) 112 := Row.new _ _ _
              obtain ⟨w3, hw3⟩ : ∃ y, y = w2.alloc (.cells (verC v) 112) := ⟨_, rfl⟩
              rw [← hw3] at hb3 hr3
              have hw3' := hw3.symm
              have HB3 : Hid (Below w.heap.size w w3) := hb3
              clear hpa hb2 hb3 hw3
              have hpc := piece_new beg ⟨2, v⟩ w3
              go_wp2_with (first | (refine wpList_store_new rfl 112 _ _ rfl w2 zeroC (verC v) 112 rfl w2.heap.size rfl rfl rfl infoVs rfl (verC_one _) ?_; rw [hw3']) | refine wpList_load_row rfl 112 _ rfl w2.heap.size rfl 112 (verC v) (0, 0) _ hr3 Tryz.underlying112 rfl infoVs ?_ | fail)
              refine hpc.mono ?_
              rintro e w4 ⟨p, rfl, h1, h2⟩
              clear hpc
              go_wp2
              go_ret2
              exact Or.inr ⟨_, p, HR.out, rfl, h1, HB3.out.trans (h2.mono HB3.out.size)⟩
            · skip
              by_cases h3 : vb x = [60]
              · have HR : Hid (termS (vb s) = some [beg, ⟨1, v⟩]) := by
                  show _ = _
                  rw [HT3.out]
                  unfold opS
                  rw [if_neg h0, if_neg h1, if_neg h2, if_pos h3]
                obtain rfl : x = ⟨#[60]⟩ := vb_inj h3
                clear HT3 h0 h1 h2 h3
                go_enter Tryz.func111, Tryz.ntmps111
                go_wp2_with fail
                refine hany.mono ?_
                rintro e w1 ⟨rfl, hb1⟩
                have hpa := HP.out w1
                have HB1 : Hid (Below w.heap.size w w1) := hb1
                clear hany HP hb1
                go_wp2_with fail
                refine hpa.mono ?_
                rintro e w2 ⟨rfl, hb2⟩
                have hb3 : Below w.heap.size w (w2.alloc (.cells (verC v) 112)) := HB1.out.trans ((hb2.mono HB1.out.size).trans ((Below.refl _ _).alloc (Nat.le_trans HB1.out.size hb2.size) _))
                have hr3 : Row (w2.alloc (.cells (verC v) 112)) w2.heap.size (verC v) 112 := Row.new _ _ _
                obtain ⟨w3, hw3⟩ : ∃ y, y = w2.alloc (.cells (verC v) 112) := ⟨_, rfl⟩
                rw [← hw3] at hb3 hr3
                have hw3' := hw3.symm
                have HB3 : Hid (Below w.heap.size w w3) := hb3
                clear hpa hb2 hb3 hw3
                have hpc := piece_new beg ⟨1, v⟩ w3
                go_wp2_with (first | (refine wpList_store_new rfl 112 _ _ rfl w2 zeroC (verC v) 112 rfl w2.heap.size rfl rfl rfl infoVs rfl (verC_one _) ?_; rw [hw3']) | refine wpList_load_row rfl 112 _ rfl w2.heap.size rfl 112 (verC v) (0, 0) _ hr3 Tryz.underlying112 rfl infoVs ?_ | fail)
                refine hpc.mono ?_
                rintro e w4 ⟨p, rfl, h1, h2⟩
                clear hpc
                go_wp2
                go_ret2
                exact Or.inr ⟨_, p, HR.out, rfl, h1, HB3.out.trans (h2.mono HB3.out.size)⟩
              · skip
                by_cases h4 : vb x = [61]
                · have HR : Hid (termS (vb s) = some [⟨1, v⟩, ⟨2, v⟩]) := by
                    show _ = _
                    rw [HT3.out]
                    unfold opS
                    rw [if_neg h0, if_neg h1, if_neg h2, if_neg h3, if_pos h4]
                  obtain rfl : x = ⟨#[61]⟩ := vb_inj h4
                  clear HT3 h0 h1 h2 h3 h4
                  go_enter Tryz.func111, Tryz.ntmps111
                  go_wp2_with fail
                  refine hany.mono ?_
                  rintro e w1 ⟨rfl, hb1⟩
                  have hpa := HP.out w1
                  have HB1 : Hid (Below w.heap.size w w1) := hb1
                  clear hany HP hb1
                  go_wp2_with fail
                  refine hpa.mono ?_
                  rintro e w2 ⟨rfl, hb2⟩
                  have hb3 : Below w.heap.size w (w2.alloc (.cells (verC v) 112)) := HB1.out.trans ((hb2.mono HB1.out.size).trans ((Below.refl _ _).alloc (Nat.le_trans HB1.out.size hb2.size) _))
                  have hr3 : Row (w2.alloc (.cells (verC v) 112)) w2.heap.size (verC v) 112 := Row.new _ _ _
                  obtain ⟨w3, hw3⟩ : ∃ y, y = w2.alloc (.cells (verC v) 112) := ⟨_, rfl⟩
                  rw [← hw3] at hb3 hr3
                  have hw3' := hw3.symm
                  have HB3 : Hid (Below w.heap.size w w3) := hb3
                  clear hpa hb2 hb3 hw3
                  have hpc := piece_new ⟨1, v⟩ ⟨2, v⟩ w3
                  go_wp2_with (first | (refine wpList_store_new rfl 112 _ _ rfl w2 zeroC (verC v) 112 rfl w2.heap.size rfl rfl rfl infoVs rfl (verC_one _) ?_; rw [hw3']) | refine wpList_load_row rfl 112 _ rfl w2.heap.size rfl 112 (verC v) (0, 0) _ hr3 Tryz.underlying112 rfl infoVs ?_ | fail)
                  refine hpc.mono ?_
                  rintro e w4 ⟨p, rfl, h1, h2⟩
                  clear hpc
                  go_wp2
                  go_ret2
                  exact Or.inr ⟨_, p, HR.out, rfl, h1, HB3.out.trans (h2.mono HB3.out.size)⟩
                · skip
                  by_cases h5 : vb x = [94]
                  · have HR : Hid (termS (vb s) = some [⟨1, v⟩, aheadB v (firstP v)]) := by
                      show _ = _
                      rw [HT3.out]
                      unfold opS
                      rw [if_neg h0, if_neg h1, if_neg h2, if_neg h3, if_neg h4, if_pos h5]
                    obtain rfl : x = ⟨#[94]⟩ := vb_inj h5
                    clear HT3 h0 h1 h2 h3 h4 h5
                    go_enter Tryz.func111, Tryz.ntmps111
                    go_wp2_with fail
                    refine hany.mono ?_
                    rintro e w1 ⟨rfl, hb1⟩
                    have hpa := HP.out w1
                    have HB1 : Hid (Below w.heap.size w w1) := hb1
                    clear hany HP hb1
                    go_wp2_with fail
                    refine hpa.mono ?_
                    rintro e w2 ⟨rfl, hb2⟩
                    have hb3 : Below w.heap.size w (w2.alloc (.cells (verC v) 112)) := HB1.out.trans ((hb2.mono HB1.out.size).trans ((Below.refl _ _).alloc (Nat.le_trans HB1.out.size hb2.size) _))
                    have hr3 : Row (w2.alloc (.cells (verC v) 112)) w2.heap.size (verC v) 112 := Row.new _ _ _
                    obtain ⟨w3, hw3⟩ : ∃ y, y = w2.alloc (.cells (verC v) 112) := ⟨_, rfl⟩
                    rw [← hw3] at hb3 hr3
                    have hw3' := hw3.symm
                    have HB3 : Hid (Below w.heap.size w w3) := hb3
                    clear hpa hb2 hb3 hw3
                    have hk3 : Row w3.drew w2.heap.size (verC v) 112 ∧ Below w.heap.size w w3.drew := ⟨hr3, HB3.out.drew⟩
                    go_wp2_with (first | (refine wpList_store_new rfl 112 _ _ rfl w2 zeroC (verC v) 112 rfl w2.heap.size rfl rfl rfl infoVs rfl (verC_one _) ?_; rw [hw3']) | fail)
                    refine wp_region_permA [(false, 0), (false, 1), (false, 2), (false, 3), (true, 4), (true, 5), (true, 6), (true, 7), (true, 8)] (fun wx => Row wx w2.heap.size (verC v) 112 ∧ Below w.heap.size w wx) (by kernel_rfl) (by kernel_rfl) ⟨hr3, HB3.out.drew⟩ ?_
                    refine a_load_row (some 59) 112 _ rfl rfl rfl (by rfl) w2.heap.size rfl (verC v) 112 _ (fun w h => h.1) Tryz.underlying112 rfl infoVs ?_
                    simp only [Act.put, List.setIfInBounds_toArray, List.set_cons_zero, List.set_cons_succ]
                    refine a_value (some 60) ?_ rfl rfl (by rfl) (fun w hw => ?_) ?_
                    rotate_left
                    · go_simp
                      with_reducible rfl
                    simp only [Act.put, List.setIfInBounds_toArray, List.set_cons_zero, List.set_cons_succ]
                    refine a_load_row (some 61) 112 _ rfl rfl rfl (by rfl) w2.heap.size rfl (verC v) 112 _ (fun w h => h.1) Tryz.underlying112 rfl infoVs ?_
                    simp only [Act.put, List.setIfInBounds_toArray, List.set_cons_zero, List.set_cons_succ]
                    refine a_load_row (some 62) 112 _ rfl rfl rfl (by rfl) w2.heap.size rfl (verC v) 112 _ (fun w h => h.1) Tryz.underlying112 rfl infoVs ?_
                    simp only [Act.put, List.setIfInBounds_toArray, List.set_cons_zero, List.set_cons_succ]
                    refine a_call (some 63) rfl rfl (by rfl) 145 #[verV v] (by go_simp) ((first_ok HMay.out w3.drew).mono fun e w4 ⟨he, hb⟩ => ⟨_, he, ?_, ?_⟩)
                    · exact ⟨hk3.1.below hb (Row.lt hk3.1), hk3.2.trans (hb.mono (Below.size hk3.2))⟩
                    have hkw4 : Row w4 w2.heap.size (verC v) 112 ∧ Below w.heap.size w w4 := ⟨hk3.1.below hb (Row.lt hk3.1), hk3.2.trans (hb.mono (Below.size hk3.2))⟩
                    clear hb he
                    simp only [Act.put, List.setIfInBounds_toArray, List.set_cons_zero, List.set_cons_succ]
                    refine a_call (some 64) rfl rfl (by rfl) 144 #[verV v, .int .i64 (firstP v)] (by go_simp) ((ahead_ok v (firstP v) w4).mono fun e w5 ⟨he, hb⟩ => ⟨_, he, ?_, ?_⟩)
                    · exact ⟨hkw4.1.below hb (Row.lt hkw4.1), hkw4.2.trans (hb.mono (Below.size hkw4.2))⟩
                    have hkw5 : Row w5 w2.heap.size (verC v) 112 ∧ Below w.heap.size w w5 := ⟨hkw4.1.below hb (Row.lt hkw4.1), hkw4.2.trans (hb.mono (Below.size hkw4.2))⟩
                    clear hb he
                    simp only [Act.put, List.setIfInBounds_toArray, List.set_cons_zero, List.set_cons_succ]
                    refine a_call (some 65) rfl rfl (by rfl) 143 #[cutV ⟨1, v⟩, cutV (aheadB v (firstP v))] (by go_simp) ((piece_new ⟨1, v⟩ (aheadB v (firstP v)) w5).mono fun e w6 ⟨p, he, hs, hb⟩ => ⟨p, he, ?_, ?_⟩)
                    · exact ⟨hkw5.1.below hb (Row.lt hkw5.1), hkw5.2.trans (hb.mono (Below.size hkw5.2))⟩
                    have hk6 : Row w6 w2.heap.size (verC v) 112 ∧ Below w.heap.size w w6 := ⟨hkw5.1.below hb (Row.lt hkw5.1), hkw5.2.trans (hb.mono (Below.size hkw5.2))⟩
                    have HS6 : Hid _ := hs
                    clear hb he hs
                    simp only [Act.put, List.setIfInBounds_toArray, List.set_cons_zero, List.set_cons_succ]
                    refine a_alone (some 2) p w6 rfl rfl (by rfl) (by go_simp) hk6 ?_
                    simp only [Act.put, List.setIfInBounds_toArray, List.set_cons_zero, List.set_cons_succ]
                    refine a_alone (some 3) (.bool true) w6 rfl rfl (by rfl) (by go_simp) hk6 ?_
                    simp only [Act.put, List.setIfInBounds_toArray, List.set_cons_zero, List.set_cons_succ]
                    refine a_done ?_
                    simp only [Exit.then]
                    have HK6 : Hid _ := hk6
                    clear hk6
                    go_wp2
                    go_ret2
                    exact Or.inr ⟨_, p, HR.out, rfl, HS6.out, HK6.out.2⟩
                  · skip
                    by_cases h6 : vb x = [126]
                    · have HR : Hid (termS (vb s) = some [⟨1, v⟩, aheadB v (min v.cnt 2)]) := by
                        show _ = _
                        rw [HT3.out]
                        unfold opS
                        rw [if_neg h0, if_neg h1, if_neg h2, if_neg h3, if_neg h4, if_neg h5, if_pos h6]
                      obtain rfl : x = ⟨#[126]⟩ := vb_inj h6
                      clear HT3 h0 h1 h2 h3 h4 h5 h6
                      go_enter Tryz.func111, Tryz.ntmps111
                      go_wp2_with fail
                      refine hany.mono ?_
                      rintro e w1 ⟨rfl, hb1⟩
                      have hpa := HP.out w1
                      have HB1 : Hid (Below w.heap.size w w1) := hb1
                      clear hany HP hb1
                      go_wp2_with fail
                      refine hpa.mono ?_
                      rintro e w2 ⟨rfl, hb2⟩
                      have hb3 : Below w.heap.size w (w2.alloc (.cells (verC v) 112)) := HB1.out.trans ((hb2.mono HB1.out.size).trans ((Below.refl _ _).alloc (Nat.le_trans HB1.out.size hb2.size) _))
                      have hr3 : Row (w2.alloc (.cells (verC v) 112)) w2.heap.size (verC v) 112 := Row.new _ _ _
                      obtain ⟨w3, hw3⟩ : ∃ y, y = w2.alloc (.cells (verC v) 112) := ⟨_, rfl⟩
                      rw [← hw3] at hb3 hr3
                      have hw3' := hw3.symm
                      have HB3 : Hid (Below w.heap.size w w3) := hb3
                      clear hpa hb2 hb3 hw3
                      have hcn : w3.cell? ⟨w2.heap.size, 4, none⟩ = some (.int .i64 v.cnt) := (hr3.cell 4).trans rfl
                      have hk3 : Row w3.drew w2.heap.size (verC v) 112 ∧ Below w.heap.size w w3.drew := ⟨hr3, HB3.out.drew⟩
                      go_wp2_with (first | (refine wpList_store_new rfl 112 _ _ rfl w2 zeroC (verC v) 112 rfl w2.heap.size rfl rfl rfl infoVs rfl (verC_one _) ?_; rw [hw3']) | fail)
                      refine wp_region_permA [(false, 0), (false, 1), (false, 2), (false, 3), (false, 4), (false, 5), (true, 6), (true, 7), (true, 8), (true, 9)] (fun wx => Row wx w2.heap.size (verC v) 112 ∧ Below w.heap.size w wx) (by kernel_rfl) (by kernel_rfl) ⟨hr3, HB3.out.drew⟩ ?_
                      refine a_load_row (some 68) 112 _ rfl rfl rfl (by rfl) w2.heap.size rfl (verC v) 112 _ (fun w h => h.1) Tryz.underlying112 rfl infoVs ?_
                      simp only [Act.put, List.setIfInBounds_toArray, List.set_cons_zero, List.set_cons_succ]
                      refine a_value (some 69) ?_ rfl rfl (by rfl) (fun w hw => ?_) ?_
                      rotate_left
                      · go_simp
                        with_reducible rfl
                      simp only [Act.put, List.setIfInBounds_toArray, List.set_cons_zero, List.set_cons_succ]
                      refine a_load_row (some 70) 112 _ rfl rfl rfl (by rfl) w2.heap.size rfl (verC v) 112 _ (fun w h => h.1) Tryz.underlying112 rfl infoVs ?_
                      simp only [Act.put, List.setIfInBounds_toArray, List.set_cons_zero, List.set_cons_succ]
                      refine a_value (some 71) ?_ rfl rfl (by rfl) (fun w hw => ?_) ?_
                      rotate_left
                      · go_simp
                        with_reducible rfl
                      simp only [Act.put, List.setIfInBounds_toArray, List.set_cons_zero, List.set_cons_succ]
                      refine a_value (some 72) (.int .i64 v.cnt) rfl rfl (by rfl) (fun w hw => ?_) ?_
                      · have hc := (hw.1.cell 4).trans (show _ = some (Value.int .i64 v.cnt) from rfl)
                        go_simp
                      simp only [Act.put, List.setIfInBounds_toArray, List.set_cons_zero, List.set_cons_succ]
                      refine a_value (some 73) (.int .i64 (min v.cnt 2)) rfl rfl (by rfl) (fun w hw => ?_) ?_
                      · go_simp
                      simp only [Act.put, List.setIfInBounds_toArray, List.set_cons_zero, List.set_cons_succ]
                      refine a_call (some 74) rfl rfl (by rfl) 144 #[verV v, .int .i64 (min v.cnt 2)] (by go_simp) ((ahead_ok v (min v.cnt 2) w3.drew).mono fun e w5 ⟨he, hb⟩ => ⟨_, he, ?_, ?_⟩)
                      · exact ⟨hk3.1.below hb (Row.lt hk3.1), hk3.2.trans (hb.mono (Below.size hk3.2))⟩
                      have hkw5 : Row w5 w2.heap.size (verC v) 112 ∧ Below w.heap.size w w5 := ⟨hk3.1.below hb (Row.lt hk3.1), hk3.2.trans (hb.mono (Below.size hk3.2))⟩
                      clear hb he
                      simp only [Act.put, List.setIfInBounds_toArray, List.set_cons_zero, List.set_cons_succ]
                      refine a_call (some 75) rfl rfl (by rfl) 143 #[cutV ⟨1, v⟩, cutV (aheadB v (min v.cnt 2))] (by go_simp) ((piece_new ⟨1, v⟩ (aheadB v (min v.cnt 2)) w5).mono fun e w6 ⟨p, he, hs, hb⟩ => ⟨p, he, ?_, ?_⟩)
                      · exact ⟨hkw5.1.below hb (Row.lt hkw5.1), hkw5.2.trans (hb.mono (Below.size hkw5.2))⟩
                      have hk6 : Row w6 w2.heap.size (verC v) 112 ∧ Below w.heap.size w w6 := ⟨hkw5.1.below hb (Row.lt hkw5.1), hkw5.2.trans (hb.mono (Below.size hkw5.2))⟩
                      have HS6 : Hid _ := hs
                      clear hb he hs
                      simp only [Act.put, List.setIfInBounds_toArray, List.set_cons_zero, List.set_cons_succ]
                      refine a_alone (some 2) p w6 rfl rfl (by rfl) (by go_simp) hk6 ?_
                      simp only [Act.put, List.setIfInBounds_toArray, List.set_cons_zero, List.set_cons_succ]
                      refine a_alone (some 3) (.bool true) w6 rfl rfl (by rfl) (by go_simp) hk6 ?_
                      simp only [Act.put, List.setIfInBounds_toArray, List.set_cons_zero, List.set_cons_succ]
                      refine a_done ?_
                      simp only [Exit.then]
                      have HK6 : Hid _ := hk6
                      clear hk6
                      go_wp2
                      go_ret2
                      exact Or.inr ⟨_, p, HR.out, rfl, HS6.out, HK6.out.2⟩
                    · skip
                      have HR : Hid (termS (vb s) = none) := by
                        show _ = _
                        rw [HT3.out]
                        unfold opS
                        rw [if_neg h0, if_neg h1, if_neg h2, if_neg h3, if_neg h4, if_neg h5, if_neg h6]
                      obtain ⟨p0, q0⟩ := bytes_ne h0
                      obtain ⟨p1, q1⟩ := bytes_ne h1
                      obtain ⟨p2, q2⟩ := bytes_ne h2
                      obtain ⟨p3, q3⟩ := bytes_ne h3
                      obtain ⟨p4, q4⟩ := bytes_ne h4
                      obtain ⟨p5, q5⟩ := bytes_ne h5
                      obtain ⟨p6, q6⟩ := bytes_ne h6
                      clear HT3 h0 h1 h2 h3 h4 h5 h6
                      go_enter Tryz.func111, Tryz.ntmps111
                      go_wp2_with fail
                      refine hany.mono ?_
                      rintro e w1 ⟨rfl, hb1⟩
                      have hpa := HP.out w1
                      have HB1 : Hid (Below w.heap.size w w1) := hb1
                      clear hany HP hb1
                      go_wp2_with fail
                      refine hpa.mono ?_
                      rintro e w2 ⟨rfl, hb2⟩
                      have hb3 : Below w.heap.size w (w2.alloc (.cells (verC v) 112)) := HB1.out.trans ((hb2.mono HB1.out.size).trans ((Below.refl _ _).alloc (Nat.le_trans HB1.out.size hb2.size) _))
                      have hr3 : Row (w2.alloc (.cells (verC v) 112)) w2.heap.size (verC v) 112 := Row.new _ _ _
                      obtain ⟨w3, hw3⟩ : ∃ y, y = w2.alloc (.cells (verC v) 112) := ⟨_, rfl⟩
                      rw [← hw3] at hb3 hr3
                      have hw3' := hw3.symm
                      have HB3 : Hid (Below w.heap.size w w3) := hb3
                      clear hpa hb2 hb3 hw3
                      go_wp2_with (first | (refine wpList_store_new rfl 112 _ _ rfl w2 zeroC (verC v) 112 rfl w2.heap.size rfl rfl rfl infoVs rfl (verC_one _) ?_; rw [hw3']) | fail)
                      go_ret2
                      exact Or.inl ⟨HR.out, rfl, HB3.out⟩
end Go.Proofs.YtkbhckjpmgkgjaaGreatDoor
