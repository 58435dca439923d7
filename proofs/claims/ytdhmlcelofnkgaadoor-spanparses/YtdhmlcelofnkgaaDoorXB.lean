/- My own work: the document's cut: a text between bytes of one kind. My own work: the document's term, by contract. My own work: the document's has. -/
import Derived.Test.YtdhmlcelofnkgaaDoorXA
import Derived.Test.YtdhmlcelofnkgaaDoorR4
import Derived.Test.YtdhmlcelofnkgaaDoorPermA
namespace Go.Proofs.YtdhmlcelofnkgaaDoor
open Go.RowKit

/-- What cut tells. -/
def CutP (c : UInt8) (s : ByteArray) (w : World) (e : Ending) (w' : World) : Prop :=
  ∃ (g : Nat) (P : List ByteArray) (cp : Nat), e = .returned (.slice (some ⟨g, 0, none⟩) P.length cp) ∧ P.map vb = cutAll c (vb s) ∧ (∀ i (h : i < P.length), w'.cell? ⟨g, i, none⟩ = some (.string P[i])) ∧ w.heap.size ≤ g ∧ g < w'.heap.size ∧ Below w.heap.size w w' ∧ P.length ≤ cp ∧ P.length ≤ s.size + 1 ∧ ∀ i (h : i < P.length), P[i].size ≤ s.size
/-- What holds while it is parted. -/
structure CuR (w wr : World) (c : UInt8) (s : ByteArray) (i fr : Nat) (Q : List ByteArray) (sv : Value) : Prop where
  own : wr.ownsRow w.heap.size 9 1 sv Q.length (Q.map Value.string)
  bel : Below w.heap.size w wr
  eq : i ≤ s.size → Q.map vb ++ cutAll c ((vb s).drop fr) = cutAll c (vb s)
  fin : s.size < i → Q.map vb = cutAll c (vb s)
  no : ∀ j, fr ≤ j → j < i → ∀ h : j < s.size, s[j] ≠ c
  le : fr ≤ i
  q : Q.length ≤ i
  sz : ∀ x ∈ Q, x.size ≤ s.size
theorem CuR.skip {w wr : World} {c : UInt8} {s : ByteArray} {i fr : Nat} {Q : List ByteArray} {sv : Value} (h : CuR w wr c s i fr Q sv) (hi : i < s.size) (hc : s[i] ≠ c) : CuR w wr c s (i + 1) fr Q sv :=
  ⟨h.own, h.bel, fun _ => h.eq (by omega), fun k => absurd k (by omega), fun j h1 h2 h3 => by
    by_cases e : j = i
    · subst e; exact hc
    · exact h.no j h1 (by omega) h3, Nat.le_succ_of_le h.le, Nat.le_succ_of_le h.q, h.sz⟩
theorem cut_part {c : UInt8} {s : ByteArray} {i fr : Nat} (hno : ∀ j, fr ≤ j → j < i → ∀ h : j < s.size, s[j] ≠ c) (hi : i ≤ s.size) : c ∉ vb (s.extract fr i) := by
  rw [vb_extract]
  intro hm
  obtain ⟨k, hk, he⟩ := List.getElem_of_mem hm
  rw [List.length_drop, List.length_take, vb_len] at hk
  rw [List.getElem_drop, List.getElem_take] at he
  exact hno (fr + k) (by omega) (by omega) (by omega) he
theorem drop_part {s : ByteArray} {i fr : Nat} (hle : fr ≤ i) (hi : i < s.size) : (vb s).drop fr = vb (s.extract fr i) ++ s[i] :: (vb s).drop (i + 1) := by
  rw [vb_extract]
  have h1 : (vb s).drop i = s[i] :: (vb s).drop (i + 1) := drop_at hi
  rw [← h1]
  have h2 : vb s = (vb s).take i ++ (vb s).drop i := (List.take_append_drop i (vb s)).symm
  conv => lhs; rw [h2]
  rw [List.drop_append_of_le_length (by rw [List.length_take, vb_len]; omega)]
/-- A part is told. -/
theorem CuR.more {w wr w1 w2 : World} {c : UInt8} {s : ByteArray} {i fr : Nat} {Q : List ByteArray} {sv sv' : Value} (h : CuR w wr c s i fr Q sv) (hi : i = s.size ∨ ∃ h : i < s.size, s[i] = c) (hb : Below w.heap.size wr w1) (ho : w2.ownsRow w.heap.size 9 1 sv' (Q.length + 1) (Q.map Value.string ++ [.string (s.extract fr i)])) (hg : w1.grownBy w2 sv.ownBlock) : CuR w w2 c s (i + 1) (i + 1) (Q ++ [s.extract fr i]) sv' := by
  have hob := own_block h.own
  have hle := h.le
  refine ⟨by rw [List.length_append, List.map_append]; exact ho, h.bel.trans (hb.trans (below_own' hg (Nat.le_trans h.bel.size hb.size) fun k hk => (hob k hk).1)), fun hi1 => ?_, fun hi1 => ?_, fun j h1 h2 => absurd h2 (by omega), Nat.le_refl _, by rw [List.length_append]; have := h.q; simp; omega, fun x hx => ?_⟩
  · rcases hi with hi | ⟨hlt, hc⟩
    · omega
    · rw [← h.eq (by omega), drop_part hle hlt, hc, cutAll_some (cutAt_some (cut_part h.no (by omega)) _), List.map_append, List.append_assoc]
      rfl
  · rcases hi with hi | ⟨hlt, hc⟩
    · have e : (vb s).drop fr = vb (s.extract fr i) := by
        rw [vb_extract, hi, List.take_of_length_le (by rw [vb_len]; omega)]
      rw [← h.eq (by omega), e, cutAll_none (cutAt_none (cut_part h.no (by omega))), List.map_append]
      rfl
    · omega
  · rcases List.mem_append.1 hx with hx | hx
    · exact h.sz x hx
    · rw [List.mem_singleton.1 hx, ByteArray.size_extract]; omega
theorem CuR.done {w wr : World} {c : UInt8} {s : ByteArray} {i fr : Nat} {Q : List ByteArray} {sv : Value} (h : CuR w wr c s i fr Q sv) (hi : s.size < i) (hi2 : i ≤ s.size + 1) : CutP c s w (.returned sv) wr := by
  have hQ := h.fin hi
  have hp := cutAll_pos c (vb s)
  rw [← hQ, List.length_map] at hp
  obtain ⟨_, ⟨_, h0⟩ | ⟨g, cap, cur, rfl, h2, h3, h4, _⟩⟩ := h.own
  · omega
  · refine ⟨g, Q, cap, rfl, hQ, fun j hj => ?_, h2, (Array.getElem?_eq_some_iff.1 h3).1, h.bel, by simpa using h4, Nat.le_trans h.q hi2, fun j hj => h.sz _ (List.getElem_mem hj)⟩
    have := h.own.cellAt j (by simpa using hj)
    rw [this, List.getElem?_map, List.getElem?_eq_getElem hj]
    rfl
set_option maxRecDepth 20000 in
set_option maxHeartbeats 4000000 in
theorem refCut_ok (c : UInt8) (s : ByteArray) (w : World) (hs : s.size ≤ 4194304) : Calls Tryd.prog 17 #[.string s, .int .u8 (c.toNat : Int)] w (CutP c s w) := by
  have H0 : Hid (CuR w w c s 0 0 [] (.slice none 0 0)) := ⟨World.ownsRow_nil _ _ _ _, Below.refl _ _, fun _ => rfl, fun h => absurd h (by omega), fun j _ h => absurd h (by omega), Nat.le_refl _, Nat.le_refl _, fun x hx => by cases hx⟩
  obtain ⟨RP, hRP⟩ : ∃ RP, RP = CutP c s w := ⟨_, rfl⟩
  have HP : Hid (∀ e w', CutP c s w e w' → RP e w') := fun e w' h => by rw [hRP]; exact h
  rw [← hRP]
  clear hRP
  go_enter Tryd.func17, Tryd.ntmps17
  go_wp2
  go_loopw [5, 6, 7] (fun sv fv iv wr => ∃ (i fr : Nat) (Q : List ByteArray), i ≤ s.size + 1 ∧ iv = .int .i64 i ∧ fv = .int .i64 fr ∧ fr ≤ i ∧ Q.length ≤ i ∧ CuR w wr c s i fr Q sv) (fun _ _ iv _ => s.size + 1 - (intOf iv).toNat)
  case atStart => exact ⟨0, 0, [], Nat.zero_le _, rfl, rfl, Nat.le_refl _, Nat.le_refl _, H0.out⟩
  case round =>
    clear H0
    obtain ⟨i, fr, Q, hi, rfl, rfl, hfi, hQi, hR⟩ := hrel
    have HR : Hid (CuR w wr c s i fr Q u5) := hR
    clear hR
    by_cases hlt : i < s.size
    · have hlt1 : (i : Int) ≤ (s.size : Int) := by omega
      have hne : ((i : Int) == (s.size : Int)) = false := by simp; omega
      have hne2 : ¬ (i : Int) = (s.size : Int) := by omega
      obtain ⟨b, hb⟩ : ∃ b, b = s[i] := ⟨_, rfl⟩
      have hb' : s[i].toNat = b.toNat := by rw [hb]
      have HBv : Hid (b = s[i]) := hb
      clear hb
      by_cases hbc : b = c
      · obtain ⟨t, ht⟩ : ∃ t, t = s.extract fr i := ⟨_, rfl⟩
        have ht' := ht.symm
        have HT : Hid (t = s.extract fr i) := ht
        have hq := (by decide : (0 : Nat) = 0)
        have hown : (wr.alloc (.cells #[.string t] 9)).ownsRow w.heap.size 9 1 u5 Q.length (Q.map Value.string) := own_below (HR.out.own) ((Below.refl _ _).alloc (Nat.le_refl _) _)
        have hlow := HR.out.bel.size
        have HOR : Hid (i = s.size ∨ ∃ h : i < s.size, s[i] = c) := Or.inr ⟨hlt, by rw [← HBv.out]; exact hbc⟩
        have hbc2 : ((b.toNat : Int) == (c.toNat : Int)) = true := by rw [hbc]; simp
        have hbc3 : (b.toNat : Int) = (c.toNat : Int) := by rw [hbc]
        clear ht hbc
        go_wp2_with (at_builtin; refine wpList_ap_one rfl (some 31) rfl _ _ rfl w.heap.size u5 Q.length (Q.map Value.string) rfl t rfl wr.heap.size rfl hown rfl hlow (by omega) ?_; intro v5 w5 ho5 hg5)
        have HN : Hid (CuR w w5 c s (i + 1) (i + 1) (Q ++ [s.extract fr i]) v5) := HR.out.more HOR.out ((Below.refl _ _).alloc (HR.out.bel.size) _) (by rw [← HT.out]; exact ho5) hg5
        clear ho5 hg5 hown
        go_roundw
        case rel => exact ⟨i + 1, i + 1, _, by omega, by go_num, by go_num, Nat.le_refl _, HN.out.q, HN.out⟩
        case measure => simp [intOf]; omega
      · have hbc2 : ((b.toNat : Int) == (c.toNat : Int)) = false := by
          simp only [beq_eq_false_iff_ne]
          exact fun e => hbc (UInt8.toNat_inj.1 (by omega))
        have hbc3 : ¬ (b.toNat : Int) = (c.toNat : Int) := fun e => hbc (UInt8.toNat_inj.1 (by omega))
        have HN : Hid (CuR w wr c s (i + 1) fr Q u5) := HR.out.skip hlt (by rw [← HBv.out]; exact hbc)
        clear hbc
        go_wp2
        go_roundw
        case rel => exact ⟨i + 1, fr, Q, by omega, by go_num, rfl, by omega, by omega, HN.out⟩
        case measure => simp [intOf]; omega
    · by_cases heq : i = s.size
      · obtain ⟨n, hn⟩ : ∃ n, n = s.size := ⟨_, rfl⟩
        have HNs : Hid (n = s.size) := hn
        have hns : s.size = n := hn.symm
        have hin : i = n := by omega
        subst hin
        have hfr : fr ≤ i := hfi
        obtain ⟨t, ht⟩ : ∃ t, t = s.extract fr i := ⟨_, rfl⟩
        have ht' := ht.symm
        have HT : Hid (t = s.extract fr i) := ht
        have hown : (wr.alloc (.cells #[.string t] 9)).ownsRow w.heap.size 9 1 u5 Q.length (Q.map Value.string) := own_below (HR.out.own) ((Below.refl _ _).alloc (Nat.le_refl _) _)
        have hlow := HR.out.bel.size
        have HOR : Hid (i = s.size ∨ ∃ h : i < s.size, s[i] = c) := Or.inl HNs.out
        have hsz : i ≤ 4194304 := by omega
        clear ht hn heq hlt
        go_wp2_with (at_builtin; refine wpList_ap_one rfl (some 31) rfl _ _ rfl w.heap.size u5 Q.length (Q.map Value.string) rfl t rfl wr.heap.size rfl hown rfl hlow (by omega) ?_; intro v5 w5 ho5 hg5)
        have HN : Hid (CuR w w5 c s (i + 1) (i + 1) (Q ++ [s.extract fr i]) v5) := HR.out.more HOR.out ((Below.refl _ _).alloc (HR.out.bel.size) _) (by rw [← HT.out]; exact ho5) hg5
        clear ho5 hg5 hown
        go_roundw
        case rel => exact ⟨i + 1, i + 1, _, by omega, by go_num, by go_num, Nat.le_refl _, HN.out.q, HN.out⟩
        case measure => simp [intOf]; omega
      · have hgt : ¬ (i : Int) ≤ (s.size : Int) := by omega
        have HD := HP.out _ _ (HR.out.done (by omega) hi)
        have HDH : Hid (RP (.returned u5) wr) := HD
        clear HD
        go_wp2
        exact HDH.out
end Go.Proofs.YtdhmlcelofnkgaaDoor
namespace Go.Proofs.YtdhmlcelofnkgaaDoor
open Go.RowKit

abbrev tmC (op : ByteArray) (v : Ver) : Array Value := #[.string op, .int .i64 v.n0, .int .i64 v.n1, .int .i64 v.n2, .int .i64 v.n3, .int .i64 v.cnt, .string v.tag]
abbrev encT (op : ByteArray) (v : Ver) : List Value := [.string op, .int .i64 v.n0, .int .i64 v.n1, .int .i64 v.n2, .int .i64 v.n3, .int .i64 v.cnt, .string v.tag]
theorem tm_one (op : ByteArray) (v : Ver) : (tmC op v).all (·.oneCell') = true := by kernel_rfl
theorem infoT : (Tryd.prog.info? 52).map (·.size) = some 7 := by kernel_rfl
theorem infoTz : (Tryd.prog.info? 52).map (fun i => (i.zero, i.size, i.bytes)) = some (some (.agg (tmC ⟨#[]⟩ zeroVer)), 7, 72) := by kernel_rfl
theorem resultsRt : Tryd.f18.results = #[.cell 2 52, .tmp 3] := by kernel_rfl
/-- What term tells. -/
def TmPost (r : Option Tm) (w : World) (e : Ending) (w' : World) : Prop := ∃ (op : ByteArray) (v : Ver), e = .returned (.tuple #[.agg (tmC op v), .bool r.isSome]) ∧ (∀ t, r = some t → t = (vb op, v)) ∧ Below w.heap.size w w'
abbrev sgC : Array Value := #[.string ⟨#[62, 61]⟩, .string ⟨#[60, 61]⟩, .string ⟨#[62]⟩, .string ⟨#[60]⟩, .string ⟨#[61]⟩, .string ⟨#[94]⟩, .string ⟨#[126]⟩]
theorem sg_at (i : Nat) (h : i < 7) : ∃ x : ByteArray, sgC[i]? = some (.string x) ∧ signsR[i]? = some (vb x) ∧ 1 ≤ x.size ∧ x.size ≤ 2 := by
  match i, h with
  | 0, _ => exact ⟨_, rfl, rfl, by decide, by decide⟩
  | 1, _ => exact ⟨_, rfl, rfl, by decide, by decide⟩
  | 2, _ => exact ⟨_, rfl, rfl, by decide, by decide⟩
  | 3, _ => exact ⟨_, rfl, rfl, by decide, by decide⟩
  | 4, _ => exact ⟨_, rfl, rfl, by decide, by decide⟩
  | 5, _ => exact ⟨_, rfl, rfl, by decide, by decide⟩
  | 6, _ => exact ⟨_, rfl, rfl, by decide, by decide⟩
def sgP (l g : By) : Bool := decide (g.length < l.length) && (l.take g.length == g)
/-- What holds while the signs are gone through. -/
structure TmR (w wr : World) (s : ByteArray) (i : Nat) : Prop where
  z : Row wr w.heap.size (tmC ⟨#[]⟩ zeroVer) 52
  sg : Row wr (w.heap.size + 1) sgC 9
  old : Below w.heap.size w wr
  eq : signR (vb s) = ((signsR.drop i).find? (sgP (vb s))).map fun g => (g, (vb s).drop g.length)
theorem TmR.drewN {w wr : World} {s : ByteArray} {i : Nat} (h : TmR w wr s i) (q : Nat) : TmR w (wr.drewN q) s i := ⟨h.z, h.sg, h.old.trans ⟨rfl, rfl, rfl, Nat.le_refl _, fun _ _ => rfl⟩, h.eq⟩
theorem TmR.skip {w wr : World} {s : ByteArray} {i : Nat} (h : TmR w wr s i) {g : By} (hg : signsR[i]? = some g) (hp : sgP (vb s) g = false) : TmR w wr s (i + 1) := by
  refine ⟨h.z, h.sg, h.old, ?_⟩
  have hl := (List.getElem?_eq_some_iff.1 hg)
  rw [h.eq, List.drop_eq_getElem_cons hl.1, hl.2, List.find?_cons, hp]
theorem TmR.hit {w wr : World} {s : ByteArray} {i : Nat} (h : TmR w wr s i) {g : By} (hg : signsR[i]? = some g) (hp : sgP (vb s) g = true) : signR (vb s) = some (g, (vb s).drop g.length) := by
  have hl := (List.getElem?_eq_some_iff.1 hg)
  rw [h.eq, List.drop_eq_getElem_cons hl.1, hl.2, List.find?_cons, hp]
  rfl
theorem TmR.none {w wr : World} {s : ByteArray} {i : Nat} (h : TmR w wr s i) (hi : 7 ≤ i) : signR (vb s) = Option.none := by
  rw [h.eq, List.drop_of_length_le (by show 7 ≤ i; exact hi)]
  rfl
set_option maxRecDepth 40000 in
set_option maxHeartbeats 8000000 in
theorem refTerm_ok (s : ByteArray) (w : World) (hs : s.size ≤ 4194304) : Calls Tryd.prog 18 #[.string s] w (TmPost (termR (vb s)) w) := by
  by_cases h42 : vb s = [42]
  · obtain rfl : s = ⟨#[42]⟩ := vb_inj h42
    have HT : Hid (termR (vb ⟨#[42]⟩) = some ([42], zeroVer)) := rfl
    clear h42 hs
    go_enter Tryd.func18, Tryd.ntmps18
    go_wp2_with (refine wpList_store_new rfl 52 _ _ rfl w (tmC ⟨#[]⟩ zeroVer) (tmC ⟨#[42]⟩ zeroVer) 52 rfl w.heap.size rfl rfl rfl infoT rfl (tm_one _ _) ?_)
    exact bodyPost_ret (results_cell_row2 resultsRt _ _ w.heap.size 52 (tmC ⟨#[42]⟩ zeroVer) (0, 0) _ rfl (Row.new _ _ _) Tryd.underlying52 rfl infoT) rfl ⟨⟨#[42]⟩, zeroVer, rfl, (fun t ht => by cases ht; rfl), (Below.refl _ _).alloc (Nat.le_refl _) _⟩
  · obtain ⟨hq1, hq2⟩ := bytes_ne h42
    have HT : Hid (termR (vb s) = match signR (vb s) with
      | none => none
      | some p => match parseV p.2 with
        | none => none
        | some v => some (p.1, v)) := by show _ = _; unfold termR; rw [if_neg h42]; rfl
    have h0 : TmR w ((w.alloc (.cells (tmC ⟨#[]⟩ zeroVer) 52)).alloc (.cells sgC 9)) s 0 := by
      refine ⟨(Row.new w _ _).alloc _, ?_, ((Below.refl _ _).alloc (Nat.le_refl _) _).alloc (by simp) _, rfl⟩
      have h := Row.new (w.alloc (.cells (tmC ⟨#[]⟩ zeroVer) 52)) sgC 9
      rw [World.size_alloc] at h
      exact h
    obtain ⟨w2, hw2⟩ : ∃ x, x = (w.alloc (.cells (tmC ⟨#[]⟩ zeroVer) 52)).alloc (.cells sgC 9) := ⟨_, rfl⟩
    have hw2' : (w.alloc (.cells #[.string ⟨#[]⟩, .int .i64 0, .int .i64 0, .int .i64 0, .int .i64 0, .int .i64 0, .string ⟨#[]⟩] 52)).alloc (.cells #[.string ⟨#[62, 61]⟩, .string ⟨#[60, 61]⟩, .string ⟨#[62]⟩, .string ⟨#[60]⟩, .string ⟨#[61]⟩, .string ⟨#[94]⟩, .string ⟨#[126]⟩] 9) = w2 := hw2.symm
    rw [← hw2] at h0
    have H0 : Hid (TmR w w2 s 0) := h0
    have HSZ : Hid (s.size ≤ 4194304) := hs
    clear h0 hw2 h42
    go_enter Tryd.func18, Tryd.ntmps18
    go_wp2
    clear hw2' hq1 hq2
    go_loopw [5] (fun iv wr => ∃ i : Nat, i ≤ 7 ∧ iv = .int .i64 i ∧ TmR w wr s i) (fun iv _ => 7 - (intOf iv).toNat)
    case atStart => exact ⟨0, Nat.zero_le _, rfl, H0.out⟩
    case round =>
      obtain ⟨i, hi, rfl, hR⟩ := hrel
      have HR : Hid (TmR w wr s i) := hR
      clear hR H0
      by_cases hlt : i < 7
      · obtain ⟨x, hx1, hx2, hx3, hx4⟩ := sg_at i hlt
        have hlt' : (i : Int) < 7 := by omega
        have hcx : wr.cell? ⟨w.heap.size + 1, i, none⟩ = some (.string x) := ((TmR.sg HR.out).cell i).trans hx1
        have HX2 : Hid (signsR[i]? = some (vb x)) := hx2
        clear hx2
        by_cases hlen : x.size < s.size
        · have g1 : (x.size : Int) < (s.size : Int) := by omega
          have g2 : decide ((x.size : Int) < (s.size : Int)) = true := decide_eq_true g1
          have g3 : decide (x.size < s.size) = true := decide_eq_true hlen
          have g4 : (x.size : Int) ≤ (s.size : Int) := by omega
          obtain ⟨t, ht⟩ : ∃ t, t = s.extract 0 x.size := ⟨_, rfl⟩
          have ht' := ht.symm
          have HTv : Hid (vb t = (vb s).take x.size) := by show _ = _; rw [ht, vb_headX]
          by_cases htx : t = x
          · have HP : Hid (sgP (vb s) (vb x) = true) := by
              show _ = _
              unfold sgP
              rw [vb_len, vb_len, decide_eq_true hlen, ← HTv.out, htx]
              simp
            have HSg := TmR.hit HR.out HX2.out HP.out
            obtain ⟨t2, ht2⟩ : ∃ t, t = s.extract x.size s.size := ⟨_, rfl⟩
            have ht2' := ht2.symm
            have HSZ2 : Hid (t2.size ≤ 4194304) := by show _ ≤ _; rw [ht2, ByteArray.size_extract]; have := HSZ.out; omega
            have hcase0 : termR (vb s) = match parseV (vb t2) with
              | none => none
              | some v => some (vb x, v) := by
              rw [HT.out, HSg, ht2, vb_rest, vb_len]
            subst htx
            clear HSg HP HTv HT ht2 ht
            cases hp : parseV (vb t2) with
            | none =>
              rw [hp] at hcase0
              obtain ⟨u, hu⟩ : ∃ u, u = zeroV := ⟨_, rfl⟩
              have hpe : parseE t2 = .tuple #[verV u, .int .i64 20] := by rw [hu]; exact parseE_no hp
              have hcase := hcase0
              clear hp hu hcase0
              go_wp2
              go_quiet (fail)
              obtain ⟨wz, hwz⟩ : ∃ z, z = wr.drewN nq := ⟨_, rfl⟩
              rw [← hwz]
              have HRz : Hid (TmR w wz s i) := by rw [hwz]; exact TmR.drewN HR.out nq
              clear hwz hcx HR
              have HTE : Hid (termR (vb s) = none) := hcase
              have hpc := refParse_ok t2 wz (by have := HSZ2.out; omega)
              rw [hpe] at hpc
              have HBz : Hid (Below w.heap.size w wz) := TmR.old HRz.out
              have HZz : Hid (Row wz w.heap.size (tmC ⟨#[]⟩ zeroVer) 52) := TmR.z HRz.out
              have HSz : Hid (Row wz (w.heap.size + 1) sgC 9) := TmR.sg HRz.out
              have hcz : wz.cell? ⟨w.heap.size + 1, i, none⟩ = some (.string t) := (HSz.out.cell i).trans hx1
              clear hpe hcase
              go_wp2_with fail
              refine hpc.mono ?_
              rintro e w4 ⟨rfl, hb4⟩
              have hz5 : Row (w4.alloc (.cells (verC u) 33)) w.heap.size (tmC ⟨#[]⟩ zeroVer) 52 := (HZz.out.below hb4 HZz.out.lt).alloc _
              have hs5 : Row (w4.alloc (.cells (verC u) 33)) (w.heap.size + 1) sgC 9 := (HSz.out.below hb4 HSz.out.lt).alloc _
              have hv5 : Row (w4.alloc (.cells (verC u) 33)) w4.heap.size (verC u) 33 := Row.new _ _ _
              have hb5 : Below w.heap.size w (w4.alloc (.cells (verC u) 33)) := (HBz.out.trans (hb4.mono HBz.out.size)).alloc (Nat.le_trans HBz.out.size hb4.size) _
              have hlt4 : w.heap.size + 1 < w4.heap.size := Nat.lt_of_lt_of_le HSz.out.lt hb4.size
              clear hpc hb4 hcz
              go_upto_region 9 with (refine wpList_store_new rfl 33 _ _ rfl w4 zeroC (verC u) 33 rfl w4.heap.size rfl rfl rfl infoRs rfl (verC_one _) ?_)
              refine wp_region_permA [(false, 0), (false, 1), (false, 2), (false, 3), (false, 4), (false, 5), (false, 6), (false, 7), (true, 8), (true, 9)] (fun wx => Row wx (w.heap.size + 1) sgC 9 ∧ Row wx w4.heap.size (verC u) 33 ∧ True) (by kernel_rfl) (by kernel_rfl) ⟨hs5, hv5, trivial⟩ ?_
              refine a_value (some 51) ?_ rfl rfl (by rfl) (fun wx hw => ?_) ?_
              rotate_left
              · go_simp
                with_reducible rfl
              simp only [Act.put, List.setIfInBounds_toArray, List.set_cons_zero, List.set_cons_succ]
              refine a_value (some 52) ?_ rfl rfl (by rfl) (fun wx hw => ?_) ?_
              rotate_left
              · go_simp
                with_reducible rfl
              simp only [Act.put, List.setIfInBounds_toArray, List.set_cons_zero, List.set_cons_succ]
              refine a_value (some 53) ?_ rfl rfl (by rfl) (fun wx hw => ?_) ?_
              rotate_left
              · go_simp
                with_reducible rfl
              simp only [Act.put, List.setIfInBounds_toArray, List.set_cons_zero, List.set_cons_succ]
              refine a_value (some 54) (.string t) rfl rfl (by rfl) (fun wx hw => ?_) ?_
              · have hc := (hw.1.cell i).trans hx1
                go_simp
              simp only [Act.put, List.setIfInBounds_toArray, List.set_cons_zero, List.set_cons_succ]
              refine a_load_row (some 55) 33 _ rfl rfl rfl (by rfl) w4.heap.size rfl (verC u) 33 _ (fun wx hw => hw.2.1) Tryd.underlying33 rfl infoRs ?_
              simp only [Act.put, List.setIfInBounds_toArray, List.set_cons_zero, List.set_cons_succ]
              refine a_value (some 56) ?_ rfl rfl (by rfl) (fun wx hw => ?_) ?_
              rotate_left
              · go_simp
                with_reducible rfl
              simp only [Act.put, List.setIfInBounds_toArray, List.set_cons_zero, List.set_cons_succ]
              refine a_value (some 57) ?_ rfl rfl (by rfl) (fun wx hw => ?_) ?_
              rotate_left
              · go_simp
                with_reducible rfl
              simp only [Act.put, List.setIfInBounds_toArray, List.set_cons_zero, List.set_cons_succ]
              refine a_value (some 58) ?_ rfl rfl (by rfl) (fun wx hw => ?_) ?_
              rotate_left
              · go_simp
                with_reducible rfl
              simp only [Act.put, List.setIfInBounds_toArray, List.set_cons_zero, List.set_cons_succ]
              refine a_wp rfl (by rfl) ?_
              refine wp_store_row 52 _ _ rfl w.heap.size (tmC t u) rfl rfl 52 (tmC ⟨#[]⟩ zeroVer) hz5 infoT rfl (tm_one _ _) ?_
              refine ⟨⟨Row.other hs5 (by omega), Row.other hv5 (by omega), trivial⟩, ?_⟩
              simp only [Act.put]
              refine a_alone (some 3) (.bool false) ((w4.alloc (.cells (verC u) 33)).drew.setRow w.heap.size (tmC t u)) rfl rfl (by rfl) (by go_simp) ⟨Row.other hs5 (by omega), Row.other hv5 (by omega), trivial⟩ ?_
              simp only [Act.put, List.setIfInBounds_toArray]
              refine a_done ?_
              try simp only [Exit.then]
              go_wp2
              exact bodyPost_ret (results_cell_row2 resultsRt _ _ w.heap.size 52 (tmC t u) (0, 0) _ rfl (Row.setRow hz5) Tryd.underlying52 rfl infoT) rfl ⟨t, u, by rw [HTE.out]; rfl, (fun t ht => by rw [HTE.out] at ht; cases ht), bel_setRow hb5.drew (Nat.le_refl _) _⟩
            | some v =>
              rw [hp] at hcase0
              obtain ⟨u, hu⟩ : ∃ u, u = v := ⟨_, rfl⟩
              have hpe : parseE t2 = .tuple #[verV u, .int .i64 0] := by rw [hu]; exact parseE_yes hp
              have hcase : termR (vb s) = some (vb t, u) := by rw [hu]; exact hcase0
              clear hp hu hcase0
              go_wp2
              go_quiet (fail)
              obtain ⟨wz, hwz⟩ : ∃ z, z = wr.drewN nq := ⟨_, rfl⟩
              rw [← hwz]
              have HRz : Hid (TmR w wz s i) := by rw [hwz]; exact TmR.drewN HR.out nq
              clear hwz hcx HR
              have HTE : Hid (termR (vb s) = some (vb t, u)) := hcase
              have hpc := refParse_ok t2 wz (by have := HSZ2.out; omega)
              rw [hpe] at hpc
              have HBz : Hid (Below w.heap.size w wz) := TmR.old HRz.out
              have HZz : Hid (Row wz w.heap.size (tmC ⟨#[]⟩ zeroVer) 52) := TmR.z HRz.out
              have HSz : Hid (Row wz (w.heap.size + 1) sgC 9) := TmR.sg HRz.out
              have hcz : wz.cell? ⟨w.heap.size + 1, i, none⟩ = some (.string t) := (HSz.out.cell i).trans hx1
              clear hpe hcase
              go_wp2_with fail
              refine hpc.mono ?_
              rintro e w4 ⟨rfl, hb4⟩
              have hz5 : Row (w4.alloc (.cells (verC u) 33)) w.heap.size (tmC ⟨#[]⟩ zeroVer) 52 := (HZz.out.below hb4 HZz.out.lt).alloc _
              have hs5 : Row (w4.alloc (.cells (verC u) 33)) (w.heap.size + 1) sgC 9 := (HSz.out.below hb4 HSz.out.lt).alloc _
              have hv5 : Row (w4.alloc (.cells (verC u) 33)) w4.heap.size (verC u) 33 := Row.new _ _ _
              have hb5 : Below w.heap.size w (w4.alloc (.cells (verC u) 33)) := (HBz.out.trans (hb4.mono HBz.out.size)).alloc (Nat.le_trans HBz.out.size hb4.size) _
              have hlt4 : w.heap.size + 1 < w4.heap.size := Nat.lt_of_lt_of_le HSz.out.lt hb4.size
              clear hpc hb4 hcz
              go_upto_region 9 with (refine wpList_store_new rfl 33 _ _ rfl w4 zeroC (verC u) 33 rfl w4.heap.size rfl rfl rfl infoRs rfl (verC_one _) ?_)
              refine wp_region_permA [(false, 0), (false, 1), (false, 2), (false, 3), (false, 4), (false, 5), (false, 6), (false, 7), (true, 8), (true, 9)] (fun wx => Row wx (w.heap.size + 1) sgC 9 ∧ Row wx w4.heap.size (verC u) 33 ∧ True) (by kernel_rfl) (by kernel_rfl) ⟨hs5, hv5, trivial⟩ ?_
              refine a_value (some 51) ?_ rfl rfl (by rfl) (fun wx hw => ?_) ?_
              rotate_left
              · go_simp
                with_reducible rfl
              simp only [Act.put, List.setIfInBounds_toArray, List.set_cons_zero, List.set_cons_succ]
              refine a_value (some 52) ?_ rfl rfl (by rfl) (fun wx hw => ?_) ?_
              rotate_left
              · go_simp
                with_reducible rfl
              simp only [Act.put, List.setIfInBounds_toArray, List.set_cons_zero, List.set_cons_succ]
              refine a_value (some 53) ?_ rfl rfl (by rfl) (fun wx hw => ?_) ?_
              rotate_left
              · go_simp
                with_reducible rfl
              simp only [Act.put, List.setIfInBounds_toArray, List.set_cons_zero, List.set_cons_succ]
              refine a_value (some 54) (.string t) rfl rfl (by rfl) (fun wx hw => ?_) ?_
              · have hc := (hw.1.cell i).trans hx1
                go_simp
              simp only [Act.put, List.setIfInBounds_toArray, List.set_cons_zero, List.set_cons_succ]
              refine a_load_row (some 55) 33 _ rfl rfl rfl (by rfl) w4.heap.size rfl (verC u) 33 _ (fun wx hw => hw.2.1) Tryd.underlying33 rfl infoRs ?_
              simp only [Act.put, List.setIfInBounds_toArray, List.set_cons_zero, List.set_cons_succ]
              refine a_value (some 56) ?_ rfl rfl (by rfl) (fun wx hw => ?_) ?_
              rotate_left
              · go_simp
                with_reducible rfl
              simp only [Act.put, List.setIfInBounds_toArray, List.set_cons_zero, List.set_cons_succ]
              refine a_value (some 57) ?_ rfl rfl (by rfl) (fun wx hw => ?_) ?_
              rotate_left
              · go_simp
                with_reducible rfl
              simp only [Act.put, List.setIfInBounds_toArray, List.set_cons_zero, List.set_cons_succ]
              refine a_value (some 58) ?_ rfl rfl (by rfl) (fun wx hw => ?_) ?_
              rotate_left
              · go_simp
                with_reducible rfl
              simp only [Act.put, List.setIfInBounds_toArray, List.set_cons_zero, List.set_cons_succ]
              refine a_wp rfl (by rfl) ?_
              refine wp_store_row 52 _ _ rfl w.heap.size (tmC t u) rfl rfl 52 (tmC ⟨#[]⟩ zeroVer) hz5 infoT rfl (tm_one _ _) ?_
              refine ⟨⟨Row.other hs5 (by omega), Row.other hv5 (by omega), trivial⟩, ?_⟩
              simp only [Act.put]
              refine a_alone (some 3) (.bool true) ((w4.alloc (.cells (verC u) 33)).drew.setRow w.heap.size (tmC t u)) rfl rfl (by rfl) (by go_simp) ⟨Row.other hs5 (by omega), Row.other hv5 (by omega), trivial⟩ ?_
              simp only [Act.put, List.setIfInBounds_toArray]
              refine a_done ?_
              try simp only [Exit.then]
              go_wp2
              exact bodyPost_ret (results_cell_row2 resultsRt _ _ w.heap.size 52 (tmC t u) (0, 0) _ rfl (Row.setRow hz5) Tryd.underlying52 rfl infoT) rfl ⟨t, u, by rw [HTE.out]; rfl, (fun t ht => by rw [HTE.out] at ht; cases ht; rfl), bel_setRow hb5.drew (Nat.le_refl _) _⟩
          · have hne1 : ¬ t.toList = x.toList := fun e => htx (by
              rw [ByteArray.toList_eq, ByteArray.toList_eq] at e
              exact vb_inj e)
            have hne2 : (t.toList == x.toList) = false := by simpa using hne1
            have HP : Hid (sgP (vb s) (vb x) = false) := by
              show _ = _
              unfold sgP
              rw [vb_len, vb_len, decide_eq_true hlen, ← HTv.out, Bool.true_and]
              simp only [beq_eq_false_iff_ne]
              exact fun e => htx (vb_inj e)
            have HN : Hid (∀ q, TmR w (wr.drewN q) s (i + 1)) := fun q => (TmR.skip HR.out HX2.out HP.out).drewN q
            clear ht htx HTv
            go_wp2
            go_quiet (fail)
            go_wp2
            go_roundw
            case rel => exact ⟨i + 1, by omega, by go_num, HN.out _⟩
            case measure => simp [intOf]; omega
        · have g1 : ¬ (x.size : Int) < (s.size : Int) := by omega
          have g2 : decide ((x.size : Int) < (s.size : Int)) = false := decide_eq_false g1
          have g3 : decide (x.size < s.size) = false := decide_eq_false hlen
          have HP : Hid (sgP (vb s) (vb x) = false) := by
            show _ = _
            unfold sgP
            rw [vb_len, vb_len, decide_eq_false hlen]
            rfl
          have HN : Hid (∀ q, TmR w (wr.drewN q) s (i + 1)) := fun q => (TmR.skip HR.out HX2.out HP.out).drewN q
          go_wp2
          go_quiet (fail)
          go_wp2
          go_roundw
          case rel => exact ⟨i + 1, by omega, by go_num, HN.out _⟩
          case measure => simp [intOf]; omega
      · have hlt' : ¬ (i : Int) < 7 := by omega
        have HTE : Hid (termR (vb s) = none) := by show _ = _; rw [HT.out, TmR.none HR.out (by omega)]
        have hz := TmR.z HR.out
        have HB : Hid (Below w.heap.size w wr) := TmR.old HR.out
        go_wp2_with (refine wpList_store_row rfl 52 _ _ rfl w.heap.size (tmC ⟨#[]⟩ zeroVer) rfl rfl 52 (tmC ⟨#[]⟩ zeroVer) hz infoT rfl (tm_one _ _) ?_)
        exact bodyPost_ret (results_cell_row2 resultsRt _ _ w.heap.size 52 (tmC ⟨#[]⟩ zeroVer) (0, 0) _ rfl (Row.setRow hz) Tryd.underlying52 rfl infoT) rfl ⟨⟨#[]⟩, zeroVer, by rw [HTE.out]; rfl, (fun t ht => by rw [HTE.out] at ht; cases ht), bel_setRow HB.out (Nat.le_refl _) _⟩
end Go.Proofs.YtdhmlcelofnkgaaDoor
namespace Go.Proofs.YtdhmlcelofnkgaaDoor
open Go.RowKit

/-- What holds while a term is asked. -/
structure HsS (w : World) (op : ByteArray) (u x : Ver) (wx : World) : Prop where
  a : Row wx w.heap.size (tmC op u) 52
  b : Row wx (w.heap.size + 1) (verC x) 33
  old : Below w.heap.size w wx
theorem HsS.next {w : World} {op : ByteArray} {u x : Ver} {wx w' : World} (h : HsS w op u x wx) (hb : Below wx.heap.size wx w') : HsS w op u x w' :=
  ⟨h.a.below hb h.a.lt, h.b.below hb h.b.lt, h.old.trans (hb.mono h.old.size)⟩
theorem HsS.start (w : World) (op : ByteArray) (u x : Ver) : HsS w op u x ((w.alloc (.cells (tmC op u) 52)).alloc (.cells (verC x) 33)) := by
  refine ⟨(Row.new w _ _).alloc _, ?_, ((Below.refl _ _).alloc (Nat.le_refl _) _).alloc (by simp) _⟩
  have h := Row.new (w.alloc (.cells (tmC op u) 52)) (verC x) 33
  rw [World.size_alloc] at h
  exact h
theorem row_tv {w : World} {g : Nat} {op : ByteArray} {u : Ver} (h : Row w g (tmC op u) 52) : w.rangeAt g 1 (encV1 u) := fun j y hj => by
  have h6 : j < 6 := (List.getElem?_eq_some_iff.1 hj).1
  rw [h.cell (1 + j), ← hj]
  match j, h6 with
  | 0, _ => rfl
  | 1, _ => rfl
  | 2, _ => rfl
  | 3, _ => rfl
  | 4, _ => rfl
  | 5, _ => rfl
/-- A row's part is loaded behind a guard that stands. -/
theorem wpList_load_midW {P : Program} {ops : Array Oper} {rest : List Oper} {o : Oper} {a : Act} {w : World} {Q : Exit → Act → World → Prop} (hw : Region.wanted o (yielded ops a.tmps) = true) (ty : TypeId) (x : Operand) (ho : o.op = .load ty x) (b off : Nat) (hx : a.eval x = .pointer (some ⟨b, off, none⟩)) (cs : List Value) (d : TypeDesc)
    (hC : w.rangeAt b off cs) (hu : P.underlying ty = some d) (hd : d.isRow = true) (hs : (P.info? ty).map (·.size) = some cs.length) (k : wpList P ops Q rest (a.put o.dst (.agg cs.toArray)) w) : wpList P ops Q (o :: rest) a w := by
  refine BigFrame.wpList_want hw fun K hK => ?_
  unfold Oper.wp execOp
  simp only [ho, hx, Instr.loadAt, Instr.sureAddr, Sem.run_bind, Sem.run_pure, Result.andThen_ok, run_loadVar_mid w b off ty cs d hC hu hd hs]
  exact hK _ _ k
/-- How far the first number that is not 0 has been sought, from behind. -/
def FpI (v : Ver) (n k : Nat) (m : Int) : Prop := ((∀ j, k ≤ j → j < n → nAt v j = 0) ∧ m = n) ∨ ∃ j, k ≤ j ∧ j < n ∧ nAt v j ≠ 0 ∧ (∀ i, k ≤ i → i < j → nAt v i = 0) ∧ m = (j : Int) + 1
theorem FpI.zero {v : Ver} {n i : Nat} {m : Int} (h : FpI v n (i + 1) m) (hz : nAt v i = 0) : FpI v n i m := by
  rcases h with ⟨h1, h2⟩ | ⟨j, h1, h2, h3, h4, h5⟩
  · refine Or.inl ⟨fun j hj hn => ?_, h2⟩
    by_cases e : j = i
    · rw [e]; exact hz
    · exact h1 j (by omega) hn
  · refine Or.inr ⟨j, by omega, h2, h3, fun k hk hj => ?_, h5⟩
    by_cases e : k = i
    · rw [e]; exact hz
    · exact h4 k (by omega) hj
theorem FpI.some {v : Ver} {n i : Nat} (hi : i < n) (hz : nAt v i ≠ 0) : FpI v n i ((i : Int) + 1) := Or.inr ⟨i, Nat.le_refl _, hi, hz, fun k h1 h2 => absurd h1 (by omega), rfl⟩
theorem FpI.done {v : Ver} {n : Nat} {m : Int} (h : FpI v n 0 m) (hv : May v) (hn : v.cnt = (n : Int)) : m = firstP v := by
  have hc := hv.cnt
  rcases h with ⟨h1, h2⟩ | ⟨j, h1, h2, h3, h4, h5⟩
  · rw [firstP_none hv (fun j hj => h1 j (Nat.zero_le _) (by omega)), h2, hn]
  · rw [firstP_at (fun k hk => h4 k (Nat.zero_le _) hk) (by omega) h3, h5]
theorem FpI.small {v : Ver} {n k : Nat} {m : Int} (h : FpI v n k m) (hn : n ≤ 4) : 0 ≤ m ∧ m ≤ 4 := by
  rcases h with ⟨_, h2⟩ | ⟨j, _, h2, _, _, h5⟩ <;> omega
set_option maxRecDepth 20000 in
set_option maxHeartbeats 4000000 in
theorem has_st (u x : Ver) (w : World) : Calls Tryd.prog 23 #[.agg (tmC ⟨#[42]⟩ u), verV x] w fun e w' => e = .returned (.bool (true)) ∧ Below w.heap.size w w' := by
  have hs := HsS.start w ⟨#[42]⟩ u x
  obtain ⟨w1, hw1⟩ : ∃ y, y = (w.alloc (.cells (tmC ⟨#[42]⟩ u) 52)).alloc (.cells (verC x) 33) := ⟨_, rfl⟩
  have hw1' := hw1.symm
  rw [← hw1] at hs
  have HS1 : Hid (HsS w ⟨#[42]⟩ u x w1) := hs
  have hcm := refCompare_ok x u w1
  have hrx := hs.b
  have hru := row_tv hs.a
  clear hs hw1
  go_enter Tryd.func23, Tryd.ntmps23
  go_wp2_with (first | refine wpList_load_mid rfl 33 _ rfl w.heap.size 1 rfl _ _ hru Tryd.underlying33 rfl infoRs ?_ | refine wpList_load_row rfl 33 _ rfl (w.heap.size + 1) rfl 33 (verC x) (0, 0) _ hrx Tryd.underlying33 rfl infoRs ?_ | fail)
  refine hcm.mono ?_
  rintro e w2 ⟨rfl, hb2⟩
  have HS2 : Hid (HsS w ⟨#[42]⟩ u x w2) := HsS.next HS1.out hb2
  have cop : w2.cell? ⟨w.heap.size, 0, none⟩ = some (.string ⟨#[42]⟩) := ((HsS.a HS2.out).cell 0).trans rfl
  have HB2 : Hid (Below w.heap.size w w2) := HsS.old HS2.out
  clear hcm hb2 hrx hru hw1' HS1
  go_wp2
  go_ret
  exact ⟨(by first | rfl | (congr 2; simp) | (congr 2; exact Bool.eq_iff_iff.2 (by simp))), HB2.out⟩
set_option maxRecDepth 20000 in
set_option maxHeartbeats 4000000 in
theorem has_ge (u x : Ver) (w : World) : Calls Tryd.prog 23 #[.agg (tmC ⟨#[62, 61]⟩ u), verV x] w fun e w' => e = .returned (.bool (decide (0 ≤ cmpV x u))) ∧ Below w.heap.size w w' := by
  have hs := HsS.start w ⟨#[62, 61]⟩ u x
  obtain ⟨w1, hw1⟩ : ∃ y, y = (w.alloc (.cells (tmC ⟨#[62, 61]⟩ u) 52)).alloc (.cells (verC x) 33) := ⟨_, rfl⟩
  have hw1' := hw1.symm
  rw [← hw1] at hs
  have HS1 : Hid (HsS w ⟨#[62, 61]⟩ u x w1) := hs
  have hcm := refCompare_ok x u w1
  have hrx := hs.b
  have hru := row_tv hs.a
  obtain ⟨cz, hcz⟩ : ∃ c, c = cmpV x u := ⟨_, rfl⟩
  rw [← hcz] at hcm
  rw [← hcz]
  clear hcz
  clear hs hw1
  go_enter Tryd.func23, Tryd.ntmps23
  go_wp2_with (first | refine wpList_load_mid rfl 33 _ rfl w.heap.size 1 rfl _ _ hru Tryd.underlying33 rfl infoRs ?_ | refine wpList_load_row rfl 33 _ rfl (w.heap.size + 1) rfl 33 (verC x) (0, 0) _ hrx Tryd.underlying33 rfl infoRs ?_ | fail)
  refine hcm.mono ?_
  rintro e w2 ⟨rfl, hb2⟩
  have HS2 : Hid (HsS w ⟨#[62, 61]⟩ u x w2) := HsS.next HS1.out hb2
  have cop : w2.cell? ⟨w.heap.size, 0, none⟩ = some (.string ⟨#[62, 61]⟩) := ((HsS.a HS2.out).cell 0).trans rfl
  have HB2 : Hid (Below w.heap.size w w2) := HsS.old HS2.out
  clear hcm hb2 hrx hru hw1' HS1
  go_wp2
  go_ret
  exact ⟨(by first | rfl | (congr 2; simp) | (congr 2; exact Bool.eq_iff_iff.2 (by simp))), HB2.out⟩
set_option maxRecDepth 20000 in
set_option maxHeartbeats 4000000 in
theorem has_le (u x : Ver) (w : World) : Calls Tryd.prog 23 #[.agg (tmC ⟨#[60, 61]⟩ u), verV x] w fun e w' => e = .returned (.bool (decide (cmpV x u ≤ 0))) ∧ Below w.heap.size w w' := by
  have hs := HsS.start w ⟨#[60, 61]⟩ u x
  obtain ⟨w1, hw1⟩ : ∃ y, y = (w.alloc (.cells (tmC ⟨#[60, 61]⟩ u) 52)).alloc (.cells (verC x) 33) := ⟨_, rfl⟩
  have hw1' := hw1.symm
  rw [← hw1] at hs
  have HS1 : Hid (HsS w ⟨#[60, 61]⟩ u x w1) := hs
  have hcm := refCompare_ok x u w1
  have hrx := hs.b
  have hru := row_tv hs.a
  obtain ⟨cz, hcz⟩ : ∃ c, c = cmpV x u := ⟨_, rfl⟩
  rw [← hcz] at hcm
  rw [← hcz]
  clear hcz
  clear hs hw1
  go_enter Tryd.func23, Tryd.ntmps23
  go_wp2_with (first | refine wpList_load_mid rfl 33 _ rfl w.heap.size 1 rfl _ _ hru Tryd.underlying33 rfl infoRs ?_ | refine wpList_load_row rfl 33 _ rfl (w.heap.size + 1) rfl 33 (verC x) (0, 0) _ hrx Tryd.underlying33 rfl infoRs ?_ | fail)
  refine hcm.mono ?_
  rintro e w2 ⟨rfl, hb2⟩
  have HS2 : Hid (HsS w ⟨#[60, 61]⟩ u x w2) := HsS.next HS1.out hb2
  have cop : w2.cell? ⟨w.heap.size, 0, none⟩ = some (.string ⟨#[60, 61]⟩) := ((HsS.a HS2.out).cell 0).trans rfl
  have HB2 : Hid (Below w.heap.size w w2) := HsS.old HS2.out
  clear hcm hb2 hrx hru hw1' HS1
  go_wp2
  go_ret
  exact ⟨(by first | rfl | (congr 2; simp) | (congr 2; exact Bool.eq_iff_iff.2 (by simp))), HB2.out⟩
set_option maxRecDepth 20000 in
set_option maxHeartbeats 4000000 in
theorem has_gt (u x : Ver) (w : World) : Calls Tryd.prog 23 #[.agg (tmC ⟨#[62]⟩ u), verV x] w fun e w' => e = .returned (.bool (decide (0 < cmpV x u))) ∧ Below w.heap.size w w' := by
  have hs := HsS.start w ⟨#[62]⟩ u x
  obtain ⟨w1, hw1⟩ : ∃ y, y = (w.alloc (.cells (tmC ⟨#[62]⟩ u) 52)).alloc (.cells (verC x) 33) := ⟨_, rfl⟩
  have hw1' := hw1.symm
  rw [← hw1] at hs
  have HS1 : Hid (HsS w ⟨#[62]⟩ u x w1) := hs
  have hcm := refCompare_ok x u w1
  have hrx := hs.b
  have hru := row_tv hs.a
  obtain ⟨cz, hcz⟩ : ∃ c, c = cmpV x u := ⟨_, rfl⟩
  rw [← hcz] at hcm
  rw [← hcz]
  clear hcz
  clear hs hw1
  go_enter Tryd.func23, Tryd.ntmps23
  go_wp2_with (first | refine wpList_load_mid rfl 33 _ rfl w.heap.size 1 rfl _ _ hru Tryd.underlying33 rfl infoRs ?_ | refine wpList_load_row rfl 33 _ rfl (w.heap.size + 1) rfl 33 (verC x) (0, 0) _ hrx Tryd.underlying33 rfl infoRs ?_ | fail)
  refine hcm.mono ?_
  rintro e w2 ⟨rfl, hb2⟩
  have HS2 : Hid (HsS w ⟨#[62]⟩ u x w2) := HsS.next HS1.out hb2
  have cop : w2.cell? ⟨w.heap.size, 0, none⟩ = some (.string ⟨#[62]⟩) := ((HsS.a HS2.out).cell 0).trans rfl
  have HB2 : Hid (Below w.heap.size w w2) := HsS.old HS2.out
  clear hcm hb2 hrx hru hw1' HS1
  go_wp2
  go_ret
  exact ⟨(by first | rfl | (congr 2; simp) | (congr 2; exact Bool.eq_iff_iff.2 (by simp))), HB2.out⟩
set_option maxRecDepth 20000 in
set_option maxHeartbeats 4000000 in
theorem has_lt (u x : Ver) (w : World) : Calls Tryd.prog 23 #[.agg (tmC ⟨#[60]⟩ u), verV x] w fun e w' => e = .returned (.bool (decide (cmpV x u < 0))) ∧ Below w.heap.size w w' := by
  have hs := HsS.start w ⟨#[60]⟩ u x
  obtain ⟨w1, hw1⟩ : ∃ y, y = (w.alloc (.cells (tmC ⟨#[60]⟩ u) 52)).alloc (.cells (verC x) 33) := ⟨_, rfl⟩
  have hw1' := hw1.symm
  rw [← hw1] at hs
  have HS1 : Hid (HsS w ⟨#[60]⟩ u x w1) := hs
  have hcm := refCompare_ok x u w1
  have hrx := hs.b
  have hru := row_tv hs.a
  obtain ⟨cz, hcz⟩ : ∃ c, c = cmpV x u := ⟨_, rfl⟩
  rw [← hcz] at hcm
  rw [← hcz]
  clear hcz
  clear hs hw1
  go_enter Tryd.func23, Tryd.ntmps23
  go_wp2_with (first | refine wpList_load_mid rfl 33 _ rfl w.heap.size 1 rfl _ _ hru Tryd.underlying33 rfl infoRs ?_ | refine wpList_load_row rfl 33 _ rfl (w.heap.size + 1) rfl 33 (verC x) (0, 0) _ hrx Tryd.underlying33 rfl infoRs ?_ | fail)
  refine hcm.mono ?_
  rintro e w2 ⟨rfl, hb2⟩
  have HS2 : Hid (HsS w ⟨#[60]⟩ u x w2) := HsS.next HS1.out hb2
  have cop : w2.cell? ⟨w.heap.size, 0, none⟩ = some (.string ⟨#[60]⟩) := ((HsS.a HS2.out).cell 0).trans rfl
  have HB2 : Hid (Below w.heap.size w w2) := HsS.old HS2.out
  clear hcm hb2 hrx hru hw1' HS1
  go_wp2
  go_ret
  exact ⟨(by first | rfl | (congr 2; simp) | (congr 2; exact Bool.eq_iff_iff.2 (by simp))), HB2.out⟩
set_option maxRecDepth 20000 in
set_option maxHeartbeats 4000000 in
theorem has_eq (u x : Ver) (w : World) : Calls Tryd.prog 23 #[.agg (tmC ⟨#[61]⟩ u), verV x] w fun e w' => e = .returned (.bool (decide (cmpV x u = 0))) ∧ Below w.heap.size w w' := by
  have hs := HsS.start w ⟨#[61]⟩ u x
  obtain ⟨w1, hw1⟩ : ∃ y, y = (w.alloc (.cells (tmC ⟨#[61]⟩ u) 52)).alloc (.cells (verC x) 33) := ⟨_, rfl⟩
  have hw1' := hw1.symm
  rw [← hw1] at hs
  have HS1 : Hid (HsS w ⟨#[61]⟩ u x w1) := hs
  have hcm := refCompare_ok x u w1
  have hrx := hs.b
  have hru := row_tv hs.a
  obtain ⟨cz, hcz⟩ : ∃ c, c = cmpV x u := ⟨_, rfl⟩
  rw [← hcz] at hcm
  rw [← hcz]
  clear hcz
  clear hs hw1
  go_enter Tryd.func23, Tryd.ntmps23
  go_wp2_with (first | refine wpList_load_mid rfl 33 _ rfl w.heap.size 1 rfl _ _ hru Tryd.underlying33 rfl infoRs ?_ | refine wpList_load_row rfl 33 _ rfl (w.heap.size + 1) rfl 33 (verC x) (0, 0) _ hrx Tryd.underlying33 rfl infoRs ?_ | fail)
  refine hcm.mono ?_
  rintro e w2 ⟨rfl, hb2⟩
  have HS2 : Hid (HsS w ⟨#[61]⟩ u x w2) := HsS.next HS1.out hb2
  have cop : w2.cell? ⟨w.heap.size, 0, none⟩ = some (.string ⟨#[61]⟩) := ((HsS.a HS2.out).cell 0).trans rfl
  have HB2 : Hid (Below w.heap.size w w2) := HsS.old HS2.out
  clear hcm hb2 hrx hru hw1' HS1
  go_wp2
  go_ret
  exact ⟨(by first | rfl | (congr 2; simp) | (congr 2; exact Bool.eq_iff_iff.2 (by simp))), HB2.out⟩
set_option maxRecDepth 20000 in
set_option maxHeartbeats 4000000 in
theorem has_tip (u x : Ver) (w : World) (hm : May u) (hs13 : u.tag.size ≤ 140737488355328) (hc0 : 0 ≤ cmpV x u) : Calls Tryd.prog 23 #[.agg (tmC ⟨#[126]⟩ u), verV x] w fun e w' => e = .returned (.bool ((decide (0 ≤ cmpV x u) && belowB x u (if u.cnt = 1 then 1 else 2)))) ∧ Below w.heap.size w w' := by
  have hs := HsS.start w ⟨#[126]⟩ u x
  obtain ⟨w1, hw1⟩ : ∃ y, y = (w.alloc (.cells (tmC ⟨#[126]⟩ u) 52)).alloc (.cells (verC x) 33) := ⟨_, rfl⟩
  have hw1' := hw1.symm
  rw [← hw1] at hs
  have HS1 : Hid (HsS w ⟨#[126]⟩ u x w1) := hs
  have hcm := refCompare_ok x u w1
  have hrx := hs.b
  have hru := row_tv hs.a
  obtain ⟨cz, hcz⟩ : ∃ c, c = cmpV x u := ⟨_, rfl⟩
  rw [← hcz] at hcm hc0
  rw [← hcz]
  clear hcz
  obtain ⟨R, hR⟩ : ∃ R, R = (decide (0 ≤ cz) && belowB x u (if u.cnt = 1 then 1 else 2)) := ⟨_, rfl⟩
  have HRes : Hid (R = belowB x u (if u.cnt = 1 then 1 else 2)) := by show _ = _; rw [hR, decide_eq_true hc0]; rfl
  rw [← hR]
  clear hR
  have hcnt := hm.cnt
  obtain ⟨n, hn⟩ : ∃ n : Nat, u.cnt = (n : Int) := ⟨u.cnt.toNat, by omega⟩
  have hn1 : 1 ≤ n := by omega
  have hn4 : n ≤ 4 := by omega
  have HN : Hid (u.cnt = (n : Int)) := hn
  have HM : Hid (May u) := hm
  have HTG : Hid (u.tag.size ≤ 140737488355328) := hs13
  clear hcnt hn hm hs13
  clear hs hw1
  go_enter Tryd.func23, Tryd.ntmps23
  go_wp2_with (first | refine wpList_load_mid rfl 33 _ rfl w.heap.size 1 rfl _ _ hru Tryd.underlying33 rfl infoRs ?_ | refine wpList_load_row rfl 33 _ rfl (w.heap.size + 1) rfl 33 (verC x) (0, 0) _ hrx Tryd.underlying33 rfl infoRs ?_ | fail)
  refine hcm.mono ?_
  rintro e w2 ⟨rfl, hb2⟩
  have HS2 : Hid (HsS w ⟨#[126]⟩ u x w2) := HsS.next HS1.out hb2
  have cop : w2.cell? ⟨w.heap.size, 0, none⟩ = some (.string ⟨#[126]⟩) := ((HsS.a HS2.out).cell 0).trans rfl
  have HB2 : Hid (Below w.heap.size w w2) := HsS.old HS2.out
  clear hcm hb2 hrx hru hw1' HS1
  have ccn : w2.cell? ⟨w.heap.size, 5, none⟩ = some (.int .i64 (n : Int)) := ((HsS.a HS2.out).cell 5).trans (by show some (Value.int .i64 u.cnt) = _; rw [HN.out])
  by_cases h1 : n = 1
  · have HE1 : Hid ((if u.cnt = 1 then (1 : Int) else 2) = 1) := by show _ = _; rw [if_pos (by rw [HN.out, h1]; rfl)]
    subst h1
    have hbl := below_ok x u 1 w2 HTG.out
    have hrx2 := HsS.b HS2.out
    have hru2 := row_tv (HsS.a HS2.out)
    go_wp2_with (first | refine wpList_load_midW (by rfl) 33 _ rfl w.heap.size 1 rfl _ _ hru2 Tryd.underlying33 rfl infoRs ?_ | refine wpList_load_wanted (by rfl) 33 _ rfl (w.heap.size + 1) rfl 33 (verC x) _ hrx2 Tryd.underlying33 rfl infoRs ?_ | fail)
    refine hbl.mono ?_
    rintro e w3 ⟨rfl, hb3⟩
    clear hbl
    go_wp2
    go_ret
    exact ⟨by rw [HRes.out, HE1.out]; rfl, HB2.out.trans (hb3.mono HB2.out.size)⟩
  · have HE1 : Hid ((if u.cnt = 1 then (1 : Int) else 2) = 2) := by show _ = _; rw [if_neg (by rw [HN.out]; omega)]
    have h1' : ¬ (n : Int) = 1 := by omega
    have h1b := beqI h1'
    have hbl := below_ok x u 2 w2 HTG.out
    have hrx2 := HsS.b HS2.out
    have hru2 := row_tv (HsS.a HS2.out)
    go_wp2_with (first | refine wpList_load_midW (by rfl) 33 _ rfl w.heap.size 1 rfl _ _ hru2 Tryd.underlying33 rfl infoRs ?_ | refine wpList_load_wanted (by rfl) 33 _ rfl (w.heap.size + 1) rfl 33 (verC x) _ hrx2 Tryd.underlying33 rfl infoRs ?_ | fail)
    refine hbl.mono ?_
    rintro e w3 ⟨rfl, hb3⟩
    clear hbl
    go_wp2
    go_ret
    exact ⟨by rw [HRes.out, HE1.out]; rfl, HB2.out.trans (hb3.mono HB2.out.size)⟩
set_option maxRecDepth 20000 in
set_option maxHeartbeats 4000000 in
theorem has_tin (u x : Ver) (w : World) (hm : May u) (hs13 : u.tag.size ≤ 140737488355328) (hc0 : ¬ 0 ≤ cmpV x u) : Calls Tryd.prog 23 #[.agg (tmC ⟨#[126]⟩ u), verV x] w fun e w' => e = .returned (.bool ((decide (0 ≤ cmpV x u) && belowB x u (if u.cnt = 1 then 1 else 2)))) ∧ Below w.heap.size w w' := by
  have hs := HsS.start w ⟨#[126]⟩ u x
  obtain ⟨w1, hw1⟩ : ∃ y, y = (w.alloc (.cells (tmC ⟨#[126]⟩ u) 52)).alloc (.cells (verC x) 33) := ⟨_, rfl⟩
  have hw1' := hw1.symm
  rw [← hw1] at hs
  have HS1 : Hid (HsS w ⟨#[126]⟩ u x w1) := hs
  have hcm := refCompare_ok x u w1
  have hrx := hs.b
  have hru := row_tv hs.a
  obtain ⟨cz, hcz⟩ : ∃ c, c = cmpV x u := ⟨_, rfl⟩
  rw [← hcz] at hcm hc0
  rw [← hcz]
  clear hcz
  obtain ⟨R, hR⟩ : ∃ R, R = (decide (0 ≤ cz) && belowB x u (if u.cnt = 1 then 1 else 2)) := ⟨_, rfl⟩
  have HRes : Hid (R = false) := by show _ = _; rw [hR, decide_eq_false hc0]; rfl
  rw [← hR]
  clear hR
  have hcnt := hm.cnt
  obtain ⟨n, hn⟩ : ∃ n : Nat, u.cnt = (n : Int) := ⟨u.cnt.toNat, by omega⟩
  have hn1 : 1 ≤ n := by omega
  have hn4 : n ≤ 4 := by omega
  have HN : Hid (u.cnt = (n : Int)) := hn
  have HM : Hid (May u) := hm
  have HTG : Hid (u.tag.size ≤ 140737488355328) := hs13
  clear hcnt hn hm hs13
  clear hs hw1
  go_enter Tryd.func23, Tryd.ntmps23
  go_wp2_with (first | refine wpList_load_mid rfl 33 _ rfl w.heap.size 1 rfl _ _ hru Tryd.underlying33 rfl infoRs ?_ | refine wpList_load_row rfl 33 _ rfl (w.heap.size + 1) rfl 33 (verC x) (0, 0) _ hrx Tryd.underlying33 rfl infoRs ?_ | fail)
  refine hcm.mono ?_
  rintro e w2 ⟨rfl, hb2⟩
  have HS2 : Hid (HsS w ⟨#[126]⟩ u x w2) := HsS.next HS1.out hb2
  have cop : w2.cell? ⟨w.heap.size, 0, none⟩ = some (.string ⟨#[126]⟩) := ((HsS.a HS2.out).cell 0).trans rfl
  have HB2 : Hid (Below w.heap.size w w2) := HsS.old HS2.out
  clear hcm hb2 hrx hru hw1' HS1
  have ccn : w2.cell? ⟨w.heap.size, 5, none⟩ = some (.int .i64 (n : Int)) := ((HsS.a HS2.out).cell 5).trans (by show some (Value.int .i64 u.cnt) = _; rw [HN.out])
  by_cases h1 : n = 1
  · have HE1 : Hid ((if u.cnt = 1 then (1 : Int) else 2) = 1) := by show _ = _; rw [if_pos (by rw [HN.out, h1]; rfl)]
    subst h1
    go_wp2
    go_ret
    exact ⟨by rw [HRes.out]; rfl, HB2.out⟩
  · have HE1 : Hid ((if u.cnt = 1 then (1 : Int) else 2) = 2) := by show _ = _; rw [if_neg (by rw [HN.out]; omega)]
    have h1' : ¬ (n : Int) = 1 := by omega
    have h1b := beqI h1'
    go_wp2
    go_ret
    exact ⟨by rw [HRes.out]; rfl, HB2.out⟩
set_option maxRecDepth 20000 in
set_option maxHeartbeats 4000000 in
theorem has_cap (u x : Ver) (w : World) (hm : May u) (hs13 : u.tag.size ≤ 140737488355328) (hc0 : 0 ≤ cmpV x u) : Calls Tryd.prog 23 #[.agg (tmC ⟨#[94]⟩ u), verV x] w fun e w' => e = .returned (.bool ((decide (0 ≤ cmpV x u) && belowB x u (firstP u)))) ∧ Below w.heap.size w w' := by
  have hs := HsS.start w ⟨#[94]⟩ u x
  obtain ⟨w1, hw1⟩ : ∃ y, y = (w.alloc (.cells (tmC ⟨#[94]⟩ u) 52)).alloc (.cells (verC x) 33) := ⟨_, rfl⟩
  have hw1' := hw1.symm
  rw [← hw1] at hs
  have HS1 : Hid (HsS w ⟨#[94]⟩ u x w1) := hs
  have hcm := refCompare_ok x u w1
  have hrx := hs.b
  have hru := row_tv hs.a
  obtain ⟨cz, hcz⟩ : ∃ c, c = cmpV x u := ⟨_, rfl⟩
  rw [← hcz] at hcm hc0
  rw [← hcz]
  clear hcz
  obtain ⟨R, hR⟩ : ∃ R, R = (decide (0 ≤ cz) && belowB x u (firstP u)) := ⟨_, rfl⟩
  have HRes : Hid (R = belowB x u (firstP u)) := by show _ = _; rw [hR, decide_eq_true hc0]; rfl
  rw [← hR]
  clear hR
  have hcnt := hm.cnt
  obtain ⟨n, hn⟩ : ∃ n : Nat, u.cnt = (n : Int) := ⟨u.cnt.toNat, by omega⟩
  have hn1 : 1 ≤ n := by omega
  have hn4 : n ≤ 4 := by omega
  have HN : Hid (u.cnt = (n : Int)) := hn
  have HM : Hid (May u) := hm
  have HTG : Hid (u.tag.size ≤ 140737488355328) := hs13
  clear hcnt hn hm hs13
  clear hs hw1
  go_enter Tryd.func23, Tryd.ntmps23
  go_wp2_with (first | refine wpList_load_mid rfl 33 _ rfl w.heap.size 1 rfl _ _ hru Tryd.underlying33 rfl infoRs ?_ | refine wpList_load_row rfl 33 _ rfl (w.heap.size + 1) rfl 33 (verC x) (0, 0) _ hrx Tryd.underlying33 rfl infoRs ?_ | fail)
  refine hcm.mono ?_
  rintro e w2 ⟨rfl, hb2⟩
  have HS2 : Hid (HsS w ⟨#[94]⟩ u x w2) := HsS.next HS1.out hb2
  have cop : w2.cell? ⟨w.heap.size, 0, none⟩ = some (.string ⟨#[94]⟩) := ((HsS.a HS2.out).cell 0).trans rfl
  have HB2 : Hid (Below w.heap.size w w2) := HsS.old HS2.out
  clear hcm hb2 hrx hru hw1' HS1
  have ccn : w2.cell? ⟨w.heap.size, 5, none⟩ = some (.int .i64 (n : Int)) := ((HsS.a HS2.out).cell 5).trans (by show some (Value.int .i64 u.cnt) = _; rw [HN.out])
  have hcn1 : IntKind.i64.wrap ((n : Int) - 1) = ((n - 1 : Nat) : Int) := by rw [IntKind.wrap_i64]; omega
  have HI0 : Hid (FpI u n n n) := Or.inl ⟨fun j h1 h2 => absurd h1 (by omega), rfl⟩
  go_wp2
  go_loop [7, 8] (fun mv iv => ∃ m : Int, mv = .int .i64 m ∧ 0 ≤ m ∧ m ≤ 4 ∧ ((∃ i : Nat, iv = .int .i64 i ∧ i < n ∧ Hid (FpI u n (i + 1) m)) ∨ (iv = .int .i64 (-1) ∧ Hid (FpI u n 0 m)))) (fun _ iv => (intOf iv + 1).toNat)
  case atStart => exact ⟨n, rfl, by omega, by omega, Or.inl ⟨n - 1, rfl, by omega, by rw [show n - 1 + 1 = n by omega]; exact HI0⟩⟩
  case round =>
    obtain ⟨m, rfl, hm0, hm4, ⟨i, rfl, hin, HF⟩ | ⟨rfl, HF⟩⟩ := hrel
    · have hi4 : (i : Int) < 4 := by omega
      have cni : w2.cell? ⟨w.heap.size, 1 + i, none⟩ = some (.int .i64 (nAt u i)) := by
        rw [(HsS.a HS2.out).cell (1 + i)]
        have h4 : i < 4 := by omega
        match i, h4 with
        | 0, _ => rfl
        | 1, _ => rfl
        | 2, _ => rfl
        | 3, _ => rfl
      obtain ⟨q, hq⟩ : ∃ q, q = nAt u i := ⟨_, rfl⟩
      rw [← hq] at cni
      have hwd : IntKind.i64.wrap ((i : Int) - 1) = (i : Int) - 1 := by rw [IntKind.wrap_i64]; omega
      have HNext : Hid (∀ m' : Int, 0 ≤ m' → m' ≤ 4 → FpI u n i m' → ∃ m : Int, Value.int .i64 m' = .int .i64 m ∧ 0 ≤ m ∧ m ≤ 4 ∧ ((∃ j : Nat, Value.int .i64 ((i : Int) - 1) = .int .i64 j ∧ j < n ∧ Hid (FpI u n (j + 1) m)) ∨ (Value.int .i64 ((i : Int) - 1) = .int .i64 (-1) ∧ Hid (FpI u n 0 m)))) := fun m' g0 g4 hf => by
        refine ⟨m', rfl, g0, g4, ?_⟩
        cases i with
        | zero => exact Or.inr ⟨rfl, hf⟩
        | succ k => exact Or.inl ⟨k, by congr 1; omega, by omega, hf⟩
      by_cases hq0 : q = 0
      · have HN2 := HNext.out m hm0 hm4 (HF.out.zero (by rw [← hq]; exact hq0))
        have HN3 : Hid _ := HN2
        clear hq HN2 HNext
        go_wp2
        go_round
        case rel => exact HN3.out
        case measure => first | (simp [intOf]; done) | (simp [intOf]; omega)
      · have hqb := beqI hq0
        have HN2 := HNext.out ((i : Int) + 1) (by omega) (by omega) (FpI.some hin (by rw [← hq]; exact hq0))
        have HN3 : Hid _ := HN2
        have hwi : IntKind.i64.wrap ((i : Int) + 1) = (i : Int) + 1 := by rw [IntKind.wrap_i64]; omega
        clear hq HN2 HNext
        go_wp2
        go_round
        case rel => exact HN3.out
        case measure => first | (simp [intOf]; done) | (simp [intOf]; omega)
    · have HEq : Hid (firstP u = m) := (HF.out.done HM.out HN.out).symm
      have hbl := below_ok x u m w2 HTG.out
      have hrx2 := HsS.b HS2.out
      have hru2 := row_tv (HsS.a HS2.out)
      go_wp2_with (first | refine wpList_load_midW (by rfl) 33 _ rfl w.heap.size 1 rfl _ _ hru2 Tryd.underlying33 rfl infoRs ?_ | refine wpList_load_wanted (by rfl) 33 _ rfl (w.heap.size + 1) rfl 33 (verC x) _ hrx2 Tryd.underlying33 rfl infoRs ?_ | fail)
      refine hbl.mono ?_
      rintro e w3 ⟨rfl, hb3⟩
      clear hbl
      go_wp2
      go_ret
      exact ⟨by rw [HRes.out, HEq.out]; rfl, HB2.out.trans (hb3.mono HB2.out.size)⟩
set_option maxRecDepth 20000 in
set_option maxHeartbeats 4000000 in
theorem has_can (u x : Ver) (w : World) (hm : May u) (hs13 : u.tag.size ≤ 140737488355328) (hc0 : ¬ 0 ≤ cmpV x u) : Calls Tryd.prog 23 #[.agg (tmC ⟨#[94]⟩ u), verV x] w fun e w' => e = .returned (.bool ((decide (0 ≤ cmpV x u) && belowB x u (firstP u)))) ∧ Below w.heap.size w w' := by
  have hs := HsS.start w ⟨#[94]⟩ u x
  obtain ⟨w1, hw1⟩ : ∃ y, y = (w.alloc (.cells (tmC ⟨#[94]⟩ u) 52)).alloc (.cells (verC x) 33) := ⟨_, rfl⟩
  have hw1' := hw1.symm
  rw [← hw1] at hs
  have HS1 : Hid (HsS w ⟨#[94]⟩ u x w1) := hs
  have hcm := refCompare_ok x u w1
  have hrx := hs.b
  have hru := row_tv hs.a
  obtain ⟨cz, hcz⟩ : ∃ c, c = cmpV x u := ⟨_, rfl⟩
  rw [← hcz] at hcm hc0
  rw [← hcz]
  clear hcz
  obtain ⟨R, hR⟩ : ∃ R, R = (decide (0 ≤ cz) && belowB x u (firstP u)) := ⟨_, rfl⟩
  have HRes : Hid (R = false) := by show _ = _; rw [hR, decide_eq_false hc0]; rfl
  rw [← hR]
  clear hR
  have hcnt := hm.cnt
  obtain ⟨n, hn⟩ : ∃ n : Nat, u.cnt = (n : Int) := ⟨u.cnt.toNat, by omega⟩
  have hn1 : 1 ≤ n := by omega
  have hn4 : n ≤ 4 := by omega
  have HN : Hid (u.cnt = (n : Int)) := hn
  have HM : Hid (May u) := hm
  have HTG : Hid (u.tag.size ≤ 140737488355328) := hs13
  clear hcnt hn hm hs13
  clear hs hw1
  go_enter Tryd.func23, Tryd.ntmps23
  go_wp2_with (first | refine wpList_load_mid rfl 33 _ rfl w.heap.size 1 rfl _ _ hru Tryd.underlying33 rfl infoRs ?_ | refine wpList_load_row rfl 33 _ rfl (w.heap.size + 1) rfl 33 (verC x) (0, 0) _ hrx Tryd.underlying33 rfl infoRs ?_ | fail)
  refine hcm.mono ?_
  rintro e w2 ⟨rfl, hb2⟩
  have HS2 : Hid (HsS w ⟨#[94]⟩ u x w2) := HsS.next HS1.out hb2
  have cop : w2.cell? ⟨w.heap.size, 0, none⟩ = some (.string ⟨#[94]⟩) := ((HsS.a HS2.out).cell 0).trans rfl
  have HB2 : Hid (Below w.heap.size w w2) := HsS.old HS2.out
  clear hcm hb2 hrx hru hw1' HS1
  have ccn : w2.cell? ⟨w.heap.size, 5, none⟩ = some (.int .i64 (n : Int)) := ((HsS.a HS2.out).cell 5).trans (by show some (Value.int .i64 u.cnt) = _; rw [HN.out])
  have hcn1 : IntKind.i64.wrap ((n : Int) - 1) = ((n - 1 : Nat) : Int) := by rw [IntKind.wrap_i64]; omega
  have HI0 : Hid (FpI u n n n) := Or.inl ⟨fun j h1 h2 => absurd h1 (by omega), rfl⟩
  go_wp2
  go_loop [7, 8] (fun mv iv => ∃ m : Int, mv = .int .i64 m ∧ 0 ≤ m ∧ m ≤ 4 ∧ ((∃ i : Nat, iv = .int .i64 i ∧ i < n ∧ Hid (FpI u n (i + 1) m)) ∨ (iv = .int .i64 (-1) ∧ Hid (FpI u n 0 m)))) (fun _ iv => (intOf iv + 1).toNat)
  case atStart => exact ⟨n, rfl, by omega, by omega, Or.inl ⟨n - 1, rfl, by omega, by rw [show n - 1 + 1 = n by omega]; exact HI0⟩⟩
  case round =>
    obtain ⟨m, rfl, hm0, hm4, ⟨i, rfl, hin, HF⟩ | ⟨rfl, HF⟩⟩ := hrel
    · have hi4 : (i : Int) < 4 := by omega
      have cni : w2.cell? ⟨w.heap.size, 1 + i, none⟩ = some (.int .i64 (nAt u i)) := by
        rw [(HsS.a HS2.out).cell (1 + i)]
        have h4 : i < 4 := by omega
        match i, h4 with
        | 0, _ => rfl
        | 1, _ => rfl
        | 2, _ => rfl
        | 3, _ => rfl
      obtain ⟨q, hq⟩ : ∃ q, q = nAt u i := ⟨_, rfl⟩
      rw [← hq] at cni
      have hwd : IntKind.i64.wrap ((i : Int) - 1) = (i : Int) - 1 := by rw [IntKind.wrap_i64]; omega
      have HNext : Hid (∀ m' : Int, 0 ≤ m' → m' ≤ 4 → FpI u n i m' → ∃ m : Int, Value.int .i64 m' = .int .i64 m ∧ 0 ≤ m ∧ m ≤ 4 ∧ ((∃ j : Nat, Value.int .i64 ((i : Int) - 1) = .int .i64 j ∧ j < n ∧ Hid (FpI u n (j + 1) m)) ∨ (Value.int .i64 ((i : Int) - 1) = .int .i64 (-1) ∧ Hid (FpI u n 0 m)))) := fun m' g0 g4 hf => by
        refine ⟨m', rfl, g0, g4, ?_⟩
        cases i with
        | zero => exact Or.inr ⟨rfl, hf⟩
        | succ k => exact Or.inl ⟨k, by congr 1; omega, by omega, hf⟩
      by_cases hq0 : q = 0
      · have HN2 := HNext.out m hm0 hm4 (HF.out.zero (by rw [← hq]; exact hq0))
        have HN3 : Hid _ := HN2
        clear hq HN2 HNext
        go_wp2
        go_round
        case rel => exact HN3.out
        case measure => first | (simp [intOf]; done) | (simp [intOf]; omega)
      · have hqb := beqI hq0
        have HN2 := HNext.out ((i : Int) + 1) (by omega) (by omega) (FpI.some hin (by rw [← hq]; exact hq0))
        have HN3 : Hid _ := HN2
        have hwi : IntKind.i64.wrap ((i : Int) + 1) = (i : Int) + 1 := by rw [IntKind.wrap_i64]; omega
        clear hq HN2 HNext
        go_wp2
        go_round
        case rel => exact HN3.out
        case measure => first | (simp [intOf]; done) | (simp [intOf]; omega)
    · have HEq : Hid (firstP u = m) := (HF.out.done HM.out HN.out).symm
      go_wp2
      go_ret
      exact ⟨by rw [HRes.out]; rfl, HB2.out⟩
/-- What the document's has tells. -/
theorem refHas_ok {op : ByteArray} {u : Ver} (hop : vb op = [42] ∨ (vb op ∈ signsR ∧ May u)) (hs : u.tag.size ≤ 140737488355328) (x : Ver) (w : World) : Calls Tryd.prog 23 #[.agg (tmC op u), verV x] w fun e w' => e = .returned (.bool (hasO (vb op) u x)) ∧ Below w.heap.size w w' := by
  rcases hop with h | ⟨h, hm⟩
  · obtain rfl : op = ⟨#[42]⟩ := vb_inj h
    exact has_st u x w
  · unfold signsR at h
    simp only [List.mem_cons, List.not_mem_nil, or_false] at h
    rcases h with h | h | h | h | h | h | h
    · obtain rfl : op = ⟨#[62, 61]⟩ := vb_inj h
      exact has_ge u x w
    · obtain rfl : op = ⟨#[60, 61]⟩ := vb_inj h
      exact has_le u x w
    · obtain rfl : op = ⟨#[62]⟩ := vb_inj h
      exact has_gt u x w
    · obtain rfl : op = ⟨#[60]⟩ := vb_inj h
      exact has_lt u x w
    · obtain rfl : op = ⟨#[61]⟩ := vb_inj h
      exact has_eq u x w
    · obtain rfl : op = ⟨#[94]⟩ := vb_inj h
      by_cases hc : 0 ≤ cmpV x u
      · exact has_cap u x w hm hs hc
      · exact has_can u x w hm hs hc
    · obtain rfl : op = ⟨#[126]⟩ := vb_inj h
      by_cases hc : 0 ≤ cmpV x u
      · exact has_tip u x w hm hs hc
      · exact has_tin u x w hm hs hc
end Go.Proofs.YtdhmlcelofnkgaaDoor
