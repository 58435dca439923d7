/- My own work: gather, alternative, Parse. -/
import Derived.Test.YtkbhckjpmgkgjaaGreatDoorST2
import Derived.Test.YtkbhckjpmgkgjaaGreatDoorSP8
import Derived.Test.YtkbhckjpmgkgjaaGreatDoorS5
namespace Go.Proofs.YtkbhckjpmgkgjaaGreatDoor
open Go.RowKit

/-- What is joined with the sets of the parts. -/
def gathL (rd : By → Option (List Cut)) (jn : List Cut → List Cut → List Cut) : List Cut → List By → Option (List Cut)
  | J, [] => some J
  | J, x :: r => match rd x with
    | none => none
    | some L => gathL rd jn (jn J L) r
def gath1 (rd : By → Option (List Cut)) (jn : List Cut → List Cut → List Cut) : List By → Option (List Cut)
  | [] => none
  | x :: r => match rd x with
    | none => none
    | some L => gathL rd jn L r
theorem gath1_cons (rd : By → Option (List Cut)) (jn : List Cut → List Cut → List Cut) (x : By) (r : List By) : gath1 rd jn (x :: r) = match rd x with
    | none => none
    | some L => gathL rd jn L r := rfl
/-- What gather tells. -/
def gatherS (c : UInt8) (rd : By → Option (List Cut)) (jn : List Cut → List Cut → List Cut) (l : By) : Option (List Cut) := if 16 < (splitB c 16 l).length then none else gath1 rd jn (splitB c 16 l)
theorem gathL_ok {rd : By → Option (List Cut)} {f : Bool → Bool → Bool} (hf : f false false = false) {N : Nat} (hrd : ∀ x L, rd x = some L → SetOk L ∧ L.length ≤ N) : ∀ (P : List By) (J R : List Cut), SetOk J → gathL rd (mk2 f) J P = some R → SetOk R ∧ R.length ≤ J.length + N * P.length := by
  intro P
  induction P with
  | nil =>
    intro J R hJ h
    cases h
    exact ⟨hJ, by simp⟩
  | cons x r ih =>
    intro J R hJ h
    unfold gathL at h
    cases hx : rd x with
    | none => rw [hx] at h; cases h
    | some L =>
      rw [hx] at h
      obtain ⟨h1, h2⟩ := hrd x L hx
      obtain ⟨h3, h4⟩ := ih _ R (mk2_ok hf hJ h1) h
      have := mk2_len f J L
      refine ⟨h3, ?_⟩
      rw [List.length_cons, Nat.mul_add]
      omega
theorem gatherS_ok {c : UInt8} {rd : By → Option (List Cut)} {f : Bool → Bool → Bool} (hf : f false false = false) {N : Nat} (hrd : ∀ x L, rd x = some L → SetOk L ∧ L.length ≤ N) {l : By} {R : List Cut} (h : gatherS c rd (mk2 f) l = some R) : SetOk R ∧ R.length ≤ 17 * N := by
  unfold gatherS at h
  split at h
  · cases h
  · rename_i hl
    cases hP : splitB c 16 l with
    | nil => rw [hP] at h; cases h
    | cons x r =>
      rw [hP] at h hl
      rw [gath1_cons] at h
      cases hx : rd x with
      | none => rw [hx] at h; cases h
      | some L =>
        rw [hx] at h
        obtain ⟨h1, h2⟩ := hrd x L hx
        obtain ⟨h3, h4⟩ := gathL_ok hf hrd r L R h1 h
        refine ⟨h3, ?_⟩
        rw [List.length_cons] at hl
        have := Nat.mul_le_mul_left N (show r.length ≤ 16 by omega)
        omega
/-- What holds ahead of each round of gather. -/
structure Ga (rd : By → Option (List Cut)) (f : Bool → Bool → Bool) (N : Nat) (R : Option (List Cut)) (w : World) (P : List ByteArray) (g : Nat) (i : Nat) (jv : Value) (wq : World) : Prop where
  js : (i = 0 ∧ jv = .pointer none ∧ gath1 rd (mk2 f) (P.map vb) = R) ∨ (0 < i ∧ ∃ J, GoodAt wq jv J wq.heap.size ∧ J.length ≤ N * i ∧ gathL rd (mk2 f) J ((P.map vb).drop i) = R)
  tx : ∀ i (h : i < P.length), wq.cell? ⟨g, i, none⟩ = some (.string P[i])
  lo : g < wq.heap.size
  old : Below w.heap.size w wq
theorem drop_map (P : List ByteArray) (i : Nat) (h : i < P.length) : (P.map vb).drop i = vb P[i] :: (P.map vb).drop (i + 1) := by
  rw [List.drop_eq_getElem_cons (by simpa using h)]
  simp
theorem splitB_size (c : UInt8) (k : Nat) : ∀ (l : By), ∀ x ∈ splitB c k l, x.length ≤ l.length := by
  induction k with
  | zero => intro l x hx; rw [List.mem_singleton.1 hx]; exact Nat.le_refl _
  | succ k ih =>
    intro l x hx
    unfold splitB at hx
    cases hc : cutAt c l with
    | none => rw [hc] at hx; rw [List.mem_singleton.1 hx]; exact Nat.le_refl _
    | some p =>
      rw [hc] at hx
      have h1 := (cutAt_back (a := p.1) (r := p.2) hc).1
      have h2 : l.length = p.1.length + (p.2.length + 1) := by rw [h1]; simp
      rcases List.mem_cons.1 hx with rfl | hx
      · omega
      · have := ih _ x hx
        omega
set_option maxRecDepth 40000 in
set_option maxHeartbeats 8000000 in
theorem gather_ok (c : UInt8) (rd : By → Option (List Cut)) (f : Bool → Bool → Bool) (hf : f false false = false) (N : Nat) (hN : N ≤ 600) (hrd : ∀ x L, rd x = some L → SetOk L ∧ L.length ≤ N) (fr fj : FuncId)
    (hr : ∀ (x : ByteArray) wx, x.size ≤ 140737488355328 → Calls Tryz.prog fr #[.string x] wx (RdPost (rd (vb x)) wx)) (hj : ∀ wx p q (A B : List Cut), GoodAt wx p A wx.heap.size → GoodAt wx q B wx.heap.size → A.length + B.length ≤ 99999 → Calls Tryz.prog fj #[p, q] wx (NewSet (mk2 f A B) wx))
    (cr : ∀ (x : ByteArray) (wx : World), (callFunc fr #[.string x]).run Tryz.prog wx = .ok (.enter fr #[.string x]) wx) (cj : ∀ (p q : Value) (wx : World), (callFunc fj #[p, q]).run Tryz.prog wx = .ok (.enter fj #[p, q]) wx)
    (s : ByteArray) (hs : s.size ≤ 140737488355328) (w : World) : Calls Tryz.prog 86 #[.string s, .string ⟨#[c]⟩, .func (.func fr) #[] #[], .func (.func fj) #[] #[]] w (RdPost (gatherS c rd (mk2 f) (vb s)) w) := by
  have hsp := splitB_ok c s w hs
  obtain ⟨R, hR⟩ : ∃ R, R = gatherS c rd (mk2 f) (vb s) := ⟨_, rfl⟩
  rw [← hR]
  have HR : Hid (R = gatherS c rd (mk2 f) (vb s)) := hR
  have HF : Hid (f false false = false) := hf
  have HRD : Hid (∀ x L, rd x = some L → SetOk L ∧ L.length ≤ N) := hrd
  have HCR : Hid (∀ (x : ByteArray) wx, x.size ≤ 140737488355328 → Calls Tryz.prog fr #[.string x] wx (RdPost (rd (vb x)) wx)) := hr
  have HCJ : Hid (∀ wx p q (A B : List Cut), GoodAt wx p A wx.heap.size → GoodAt wx q B wx.heap.size → A.length + B.length ≤ 99999 → Calls Tryz.prog fj #[p, q] wx (NewSet (mk2 f A B) wx)) := hj
  have HER : Hid (∀ (x : ByteArray) (wx : World), (callFunc fr #[.string x]).run Tryz.prog wx = .ok (.enter fr #[.string x]) wx) := cr
  have HEJ : Hid (∀ (p q : Value) (wx : World), (callFunc fj #[p, q]).run Tryz.prog wx = .ok (.enter fj #[p, q]) wx) := cj
  have HSZ : Hid (s.size ≤ 140737488355328) := hs
  clear hR hf hrd hr hj cr cj hs
  go_enter Tryz.func86, Tryz.ntmps86
  go_wp2_with fail
  refine hsp.mono ?_
  rintro e w1 ⟨g, P, cp, rfl, hP, htx, hg0, hg1, hb1, hpc, hcp⟩
  have HPM : Hid (P.map vb = splitB c 16 (vb s)) := hP
  have HG : Hid (Ga rd f N (gath1 rd (mk2 f) (P.map vb)) w P g 0 (.pointer none) w1) := ⟨Or.inl ⟨rfl, rfl, rfl⟩, htx, hg1, hb1⟩
  have HB1 : Hid (Below w.heap.size w w1) := hb1
  have HPS : Hid (∀ i (h : i < P.length), P[i].size ≤ 140737488355328) := fun i h => by
    have h1 : vb P[i] ∈ P.map vb := List.mem_map.2 ⟨P[i], List.getElem_mem h, rfl⟩
    rw [hP] at h1
    have h2 := splitB_size c 16 (vb s) _ h1
    rw [vb_len, vb_len] at h2
    exact Nat.le_trans h2 HSZ.out
  have HPos : Hid (1 ≤ P.length) := by
    have h1 := splitB_pos c 16 (vb s)
    rw [← hP, List.length_map] at h1
    exact h1
  obtain ⟨n, hn⟩ : ∃ n, n = P.length := ⟨_, rfl⟩
  have HNP : Hid (n = P.length) := hn
  rw [← hn] at hpc
  clear hsp hP htx hg0 hg1 hb1
  have hnn : P.length = n := hn.symm
  rw [hnn]
  clear hnn hn
  by_cases h16 : 16 < n
  · have HNo : Hid (R = none) := by
      show _ = _
      rw [HR.out]
      unfold gatherS
      rw [← HPM.out, List.length_map, ← HNP.out, if_pos h16]
    have h16' : (16 : Int) < (n : Int) := by omega
    go_wp2
    go_ret2
    exact Or.inl ⟨HNo.out, rfl, HB1.out⟩
  · have h16' : ¬ (16 : Int) < (n : Int) := by omega
    have HR2 : Hid (gath1 rd (mk2 f) (P.map vb) = R) := by
      show _ = _
      rw [HR.out]
      unfold gatherS
      rw [← HPM.out, List.length_map, ← HNP.out, if_neg h16]
    rw [HR2.out] at HG
    go_wp2
    go_loopw [11, 24] (fun s11 s24 wq => ∃ (i : Nat), i ≤ n ∧ s24 = .int .i64 i ∧ Ga rd f N R w P g i s11 wq) (fun _ s24 _ => n - (intOf s24).toNat)
    case atStart => exact ⟨0, Nat.zero_le _, rfl, HG.out⟩
    case round =>
      obtain ⟨i, hi, rfl, hG⟩ := hrel
      have HGa : Hid (Ga rd f N R w P g i u11 wr) := hG
      clear hG HG
      by_cases hin : i < n
      · have hin' : (i : Int) < (n : Int) := by omega
        have hiP : i < P.length := by have := HNP.out; omega
        have htx := HGa.out.tx i hiP
        have hsz := HPS.out i hiP
        have HDr : Hid ((P.map vb).drop i = vb P[i] :: (P.map vb).drop (i + 1)) := drop_map P i hiP
        have HGl := HGa.out.lo
        obtain ⟨x, hx⟩ : ∃ x, x = P[i] := ⟨_, rfl⟩
        rw [← hx] at htx hsz HDr
        have hrc := HCR.out x wr hsz
        have HI1 : Hid (∀ (w2 : World) (jv : Value) (J : List Cut), Below wr.heap.size wr w2 → GoodAt w2 jv J w2.heap.size → J.length ≤ N * (i + 1) → gathL rd (mk2 f) J ((P.map vb).drop (i + 1)) = R → Ga rd f N R w P g (i + 1) jv w2) := fun w2 jv J hb hg hl he =>
          ⟨Or.inr ⟨Nat.succ_pos _, J, hg, hl, he⟩, fun j hj => (hb.cell (p := ⟨g, j, none⟩) HGa.out.lo).trans (HGa.out.tx j hj), Nat.lt_of_lt_of_le HGa.out.lo hb.size, HGa.out.old.trans (hb.mono HGa.out.old.size)⟩
        clear hx hsz
        go_wp2
        rw [HER.out x wr]
        simp only [Oper.upon]
        refine hrc.mono ?_
        rintro e w2 (⟨hno, rfl, hb2⟩ | ⟨L, p, hL, rfl, hset, hb2⟩)
        · have HNo : Hid (R = none) := by
            rcases HGa.out.js with ⟨h0, _, h⟩ | ⟨_, J, _, _, h⟩
            · have h1 := HDr.out
              rw [h0, List.drop_zero] at h1
              rw [h1] at h
              rw [gath1_cons] at h
              rw [hno] at h
              exact h.symm
            · rw [HDr.out] at h
              unfold gathL at h
              rw [hno] at h
              exact h.symm
          have HB2 : Hid (Below w.heap.size w w2) := HGa.out.old.trans (hb2.mono HGa.out.old.size)
          clear hrc hno hb2 htx HGl
          go_wp2
          go_ret2
          exact Or.inl ⟨HNo.out, rfl, HB2.out⟩
        · obtain ⟨hok, hlen⟩ := HRD.out _ L hL
          by_cases hi0 : i = 0
          · subst hi0
            have HN2 : Hid (Ga rd f N R w P g (0 + 1) p w2) := HI1.out w2 p L hb2 ⟨hset, hok⟩ (by omega) (by
              rcases HGa.out.js with ⟨_, _, h⟩ | ⟨h0, _⟩
              · have h1 := HDr.out
                rw [List.drop_zero] at h1
                rw [h1] at h
                rw [gath1_cons] at h
                rw [hL] at h
                exact h
              · omega)
            clear hrc hL hok hlen hset hb2 htx HGl HI1
            go_wp2
            go_roundw
            case rel => exact ⟨0 + 1, by omega, by go_num, HN2.out⟩
            case measure => simp [intOf]; omega
          · have hi0' : ¬ (i : Int) = 0 := by omega
            have hi0b := beqI hi0'
            obtain ⟨J, hJ, hJl, hJe⟩ : ∃ J, GoodAt wr u11 J wr.heap.size ∧ J.length ≤ N * i ∧ gathL rd (mk2 f) J ((P.map vb).drop i) = R := by
              rcases HGa.out.js with ⟨h0, _⟩ | ⟨_, J, h1, h2, h3⟩
              · exact absurd h0 hi0
              · exact ⟨J, h1, h2, h3⟩
            have hni : N * i ≤ 600 * 16 := Nat.mul_le_mul hN (by omega)
            have hjc := HCJ.out w2 u11 p J L ((hJ.keep hb2).mono hb2.size) ⟨hset, hok⟩ (by omega)
            have HN3 : Hid (∀ w3 q, SetAt w3 q (mk2 f J L) w3.heap.size → Below w2.heap.size w2 w3 → Ga rd f N R w P g (i + 1) q w3) := fun w3 q hq hb3 => HI1.out w3 q (mk2 f J L) (hb2.trans (hb3.mono hb2.size)) ⟨hq, mk2_ok HF.out hJ.ok hok⟩ (by
                have := mk2_len f J L
                rw [Nat.mul_add]
                omega) (by
                rw [HDr.out] at hJe
                unfold gathL at hJe
                rw [hL] at hJe
                exact hJe)
            clear hrc hL hok hlen hset hb2 htx HGl HI1 hJ hJl hJe hni
            go_wp2
            rw [HEJ.out u11 p w2]
            simp only [Oper.upon]
            refine hjc.mono ?_
            rintro e w3 ⟨q, rfl, hq, hb3⟩
            have HN4 : Hid (Ga rd f N R w P g (i + 1) q w3) := HN3.out w3 q hq hb3
            clear hjc hq hb3 HN3
            go_wp2
            go_roundw
            case rel => exact ⟨i + 1, by omega, by go_num, HN4.out⟩
            case measure => simp [intOf]; omega
      · have hin' : ¬ (i : Int) < (n : Int) := by omega
        obtain ⟨J, hJ, hJe⟩ : ∃ J, GoodAt wr u11 J wr.heap.size ∧ some J = R := by
          rcases HGa.out.js with ⟨h0, _⟩ | ⟨_, J, h1, h2, h3⟩
          · have := HPos.out
            have := HNP.out
            omega
          · rw [List.drop_of_length_le (by rw [List.length_map]; have := HNP.out; omega)] at h3
            exact ⟨J, h1, h3⟩
        have HJ : Hid (GoodAt wr u11 J wr.heap.size) := hJ
        have HJE : Hid (some J = R) := hJe
        clear hJ hJe
        go_wp2
        go_ret2
        exact Or.inr ⟨J, u11, HJE.out.symm, rfl, HJ.out.at', HGa.out.old⟩
theorem cf_term (x : ByteArray) (w : World) : (callFunc 111 #[.string x]).run Tryz.prog w = .ok (.enter 111 #[.string x]) w := by kernel_rfl
theorem cf_alt (x : ByteArray) (w : World) : (callFunc 87 #[.string x]).run Tryz.prog w = .ok (.enter 87 #[.string x]) w := by kernel_rfl
theorem cf_And (p q : Value) (w : World) : (callFunc 112 #[p, q]).run Tryz.prog w = .ok (.enter 112 #[p, q]) w := by kernel_rfl
theorem cf_Or (p q : Value) (w : World) : (callFunc 88 #[p, q]).run Tryz.prog w = .ok (.enter 88 #[p, q]) w := by kernel_rfl
/-- What an alternative means; what a range means. -/
def altS (l : By) : Option (List Cut) := gatherS 44 termS andS l
def rangeS (l : By) : Option (List Cut) := gatherS 124 altS orS l
theorem altS_ok {l : By} {L : List Cut} (h : altS l = some L) : SetOk L ∧ L.length ≤ 34 := by
  have := gatherS_ok (N := 2) (show fAnd false false = false from rfl) (fun x L hx => ⟨(termS_ok hx).1, Nat.le_of_eq (termS_ok hx).2⟩) h
  exact ⟨this.1, by omega⟩
theorem rangeS_ok {l : By} {L : List Cut} (h : rangeS l = some L) : SetOk L ∧ L.length ≤ 578 := by
  have := gatherS_ok (N := 34) (show fOr false false = false from rfl) (fun x L hx => altS_ok hx) h
  exact ⟨this.1, by omega⟩
theorem rd_form {r : Option (List Cut)} {w : World} {e : Ending} {w' : World} (h : RdPost r w e w') : ∃ p b, e = .returned (.tuple #[p, .bool b]) := by
  rcases h with ⟨_, h, _⟩ | ⟨_, p, _, h, _⟩
  · exact ⟨_, _, h⟩
  · exact ⟨_, _, h⟩
set_option maxRecDepth 20000 in
theorem alt_ok (s : ByteArray) (w : World) (hs : s.size ≤ 140737488355328) : Calls Tryz.prog 87 #[.string s] w (RdPost (altS (vb s)) w) := by
  have hg := gather_ok 44 termS fAnd rfl 2 (by omega) (fun x L hx => ⟨(termS_ok hx).1, Nat.le_of_eq (termS_ok hx).2⟩) 111 112 (fun x wx hx => term_ok x hx wx) (fun wx p q A B h1 h2 h3 => and_ok h1 h2 h3) cf_term cf_And s hs w
  have hg2 : Calls Tryz.prog 86 #[.string s, .string ⟨#[44]⟩, .func (.func 111) #[] #[], .func (.func 112) #[] #[]] w (RdPost (altS (vb s)) w) := hg
  generalize altS (vb s) = r at hg2
  clear hg
  go_enter Tryz.func87, Tryz.ntmps87
  go_wp2_with fail
  refine hg2.mono ?_
  rintro e w1 h1
  obtain ⟨p, b, rfl⟩ := rd_form h1
  have H1 : Hid _ := h1
  clear hg2 h1
  go_wp2
  go_ret2
  exact H1.out
/-- What Parse tells. -/
def PaPost (r : Option (List Cut)) (w : World) (e : Ending) (w' : World) : Prop := (r = none ∧ e = .returned (.tuple #[.pointer none, .int .i64 21]) ∧ Below w.heap.size w w') ∨ ∃ L p, r = some L ∧ e = .returned (.tuple #[p, .int .i64 0]) ∧ GoodAt w' p L w'.heap.size ∧ L.length ≤ 578 ∧ Below w.heap.size w w'
set_option maxRecDepth 20000 in
theorem rangeParse_ok (s : ByteArray) (w : World) (hs : s.size ≤ 140737488355328) : Calls Tryz.prog 55 #[.string s] w (PaPost (rangeS (vb s)) w) := by
  have hg := gather_ok 124 altS fOr rfl 34 (by omega) (fun x L hx => altS_ok hx) 87 88 (fun x wx hx => alt_ok x wx hx) (fun wx p q A B h1 h2 h3 => or_ok h1 h2 h3) cf_alt cf_Or s hs w
  have hg2 : Calls Tryz.prog 86 #[.string s, .string ⟨#[124]⟩, .func (.func 87) #[] #[], .func (.func 88) #[] #[]] w (RdPost (rangeS (vb s)) w) := hg
  have HO : Hid (∀ L, rangeS (vb s) = some L → SetOk L ∧ L.length ≤ 578) := fun L h => rangeS_ok h
  generalize rangeS (vb s) = r at hg2 HO
  clear hg
  go_enter Tryz.func55, Tryz.ntmps55
  go_wp2_with fail
  refine hg2.mono ?_
  rintro e w1 (⟨h1, rfl, h2⟩ | ⟨L, p, h1, rfl, h2, h3⟩)
  · clear hg2
    have H1 : Hid _ := h1
    clear h1
    go_wp2
    go_ret2
    exact Or.inl ⟨H1.out, rfl, h2⟩
  · clear hg2
    have H1 : Hid _ := h1
    clear h1
    go_wp2
    go_ret2
    exact Or.inr ⟨L, p, H1.out, rfl, ⟨h2, (HO.out L H1.out).1⟩, (HO.out L H1.out).2, h3⟩
end Go.Proofs.YtkbhckjpmgkgjaaGreatDoor
