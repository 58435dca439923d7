/- My own work: the document's own Name of a package. My own work: the document's term, by contract. My own work: the document's has. My own work: the document's Parse of ranges. My own work: the document's own pack: what is wrong with one of several packages. -/
import Derived.Test.YtkbhckjpmgkgjaaGreatDoorXC
import Derived.Test.YtkbhckjpmgkgjaaGreatDoorXJ
import Derived.Test.YtkbhckjpmgkgjaaGreatDoorPermA
namespace Go.Proofs.YtkbhckjpmgkgjaaGreatDoor
open Go.RowKit

theorem nmB_iff (b : UInt8) : nmB b = true ↔ (97 ≤ b.toNat ∧ b.toNat ≤ 122) ∨ (48 ≤ b.toNat ∧ b.toNat ≤ 57) ∨ b.toNat = 45 := by
  unfold nmB lowB
  rw [Bool.or_eq_true, Bool.or_eq_true, decide_eq_true_eq, digB_iff, beq_iff_eq, or_assoc]
  have : b = 45 ↔ b.toNat = 45 := ⟨fun e => by rw [e]; rfl, fun e => UInt8.toNat_inj.1 (by rw [e]; rfl)⟩
  rw [this]
theorem nm_bad {s : ByteArray} {k : Nat} (h : k < s.size) {c : UInt8} (hc : s[k] = c) (hn : ¬ ((97 ≤ c.toNat ∧ c.toNat ≤ 122) ∨ (48 ≤ c.toNat ∧ c.toNat ≤ 57) ∨ c.toNat = 45)) : nameI (vb s) = false := by
  unfold nameI
  have h1 : (vb s).all nmB = false := List.all_eq_false.2 ⟨c, by rw [← List.take_append_drop k (vb s), drop_atI h, hc]; simp, by rw [nmB_iff]; exact hn⟩
  rw [h1, Bool.and_false]
theorem nm_bad0 {s : ByteArray} (h : 0 < s.size) {c : UInt8} (hc : s[0] = c) (hn : ¬ (97 ≤ c.toNat ∧ c.toNat ≤ 122)) : nameI (vb s) = false := by
  unfold nameI
  have e : (vb s).take 1 = [c] := by
    have h2 : (vb s).drop 0 = s[0] :: (vb s).drop 1 := drop_atI h
    rw [List.drop_zero] at h2
    rw [h2, hc]
    rfl
  have h1 : ((vb s).take 1).all lowB = false := by
    rw [e, List.all_cons, show lowB c = false from decide_eq_false hn]
    rfl
  rw [h1, Bool.and_false, Bool.false_and]
structure NmR (s : ByteArray) (k : Nat) : Prop where
  all : ∀ b ∈ (vb s).take k, nmB b = true
  fst : 0 < k → ((vb s).take 1).all lowB = true
theorem NmR.step {s : ByteArray} {k : Nat} (h : NmR s k) (hk : k < s.size) {c : UInt8} (hc : s[k] = c) (hn : (97 ≤ c.toNat ∧ c.toNat ≤ 122) ∨ (k ≠ 0 ∧ ((48 ≤ c.toNat ∧ c.toNat ≤ 57) ∨ c.toNat = 45))) : NmR s (k + 1) := by
  refine ⟨fun b hb => ?_, fun _ => ?_⟩
  · rw [List.take_succ_eq_append_getElem (by rw [vb_len]; exact hk)] at hb
    rcases List.mem_append.1 hb with hb | hb
    · exact h.all b hb
    · have e : b = c := by rw [List.mem_singleton.1 hb, ← hc]; rfl
      rw [e]
      exact (nmB_iff c).2 (by omega)
  · by_cases hk0 : k = 0
    · subst hk0
      have e : (vb s).take 1 = [c] := by
        have h2 : (vb s).drop 0 = s[0] :: (vb s).drop 1 := drop_atI hk
        rw [List.drop_zero] at h2
        rw [h2, hc]
        rfl
      rw [e, List.all_cons, show lowB c = true from decide_eq_true (by omega)]
      rfl
    · exact h.fst (by omega)
theorem NmR.done {s : ByteArray} (h : NmR s s.size) : nameI (vb s) = decide (1 ≤ s.size ∧ s.size ≤ 20) := by
  unfold nameI
  have h1 : (vb s).all nmB = true := List.all_eq_true.2 fun b hb => h.all b (by rw [List.take_of_length_le (by rw [vb_len]; exact Nat.le_refl _)]; exact hb)
  rw [h1, Bool.and_true, vb_len]
  by_cases h0 : 0 < s.size
  · rw [h.fst h0, Bool.and_true]
  · rw [decide_eq_false (fun k => h0 k.1), Bool.false_and]
set_option maxRecDepth 20000 in
set_option maxHeartbeats 4000000 in
theorem refName_ok (s : ByteArray) (hs : s.size ≤ 140737488355328) (w : World) : Calls Tryz.prog 20 #[.string s] w fun e w' => e = .returned (.bool (nameI (vb s))) ∧ w' = w := by
  go_enter Tryz.func20, Tryz.ntmps20
  go_wp2
  go_loopw [3] (fun i wr => ∃ k : Nat, k ≤ s.size ∧ i = .int .i64 k ∧ wr = w ∧ Hid (NmR s k)) (fun i _ => s.size - (intOf i).toNat)
  case atStart => exact ⟨0, Nat.zero_le _, rfl, rfl, ⟨fun b hb => absurd hb (by simp), fun h => absurd h (by omega)⟩⟩
  case round =>
    obtain ⟨k, hk, rfl, hwr, HD⟩ := hrel
    subst hwr
    by_cases hlt : k < s.size
    · obtain ⟨c, hc⟩ : ∃ c, c = s[k] := ⟨_, rfl⟩
      have hc' : s[k].toNat = c.toNat := by rw [hc]
      have HC : Hid (s[k] = c) := hc.symm
      have hlt' : (k : Int) < (s.size : Int) := by omega
      have hcl := c.toNat_lt
      clear hc
      by_cases hk0 : k = 0
      · subst hk0
        by_cases g1 : 97 ≤ c.toNat
        · have g1' : ¬ (c.toNat : Int) < 97 := by omega
          by_cases g2 : c.toNat ≤ 122
          · have g2' : ¬ (122 : Int) < (c.toNat : Int) := by omega
            have HY : Hid (NmR s (0 + 1)) := HD.out.step hlt HC.out (by omega)
            go_wp2
            go_roundw
            case rel => exact ⟨0 + 1, by omega, by go_num, trivial, HY.out⟩
            case measure => simp [intOf]; omega
          · have g2' : (122 : Int) < (c.toNat : Int) := by omega
            have HN : Hid (nameI (vb s) = false) := nm_bad0 hlt HC.out (by omega)
            go_wp2
            go_ret
            exact ⟨by rw [HN.out]; rfl, rfl⟩
        · have g1' : (c.toNat : Int) < 97 := by omega
          have HN : Hid (nameI (vb s) = false) := nm_bad0 hlt HC.out (by omega)
          go_wp2
          go_ret
          exact ⟨by rw [HN.out]; rfl, rfl⟩
      · have hk0' : ¬ (k : Int) = 0 := by omega
        have hk0b : ((k : Int) == 0) = false := by simp; omega
        by_cases r0 : c.toNat ≤ 44
        · have g1 : (c.toNat : Int) < 97 := by omega
          have g3 : ¬ (c.toNat : Int) = 45 := by omega
          have g3' : ((c.toNat : Int) == 45) = false := by simp; omega
          have g4 : (c.toNat : Int) < 48 := by omega
          have HN : Hid (nameI (vb s) = false) := nm_bad hlt HC.out (by omega)
          go_wp2
          go_ret
          exact ⟨by rw [HN.out]; rfl, rfl⟩
        · skip
          by_cases r1 : c.toNat ≤ 45
          · have g1 : (c.toNat : Int) < 97 := by omega
            have g3 : (c.toNat : Int) = 45 := by omega
            have HY : Hid (NmR s (k + 1)) := HD.out.step hlt HC.out (by omega)
            go_wp2
            go_roundw
            case rel => exact ⟨k + 1, by omega, by go_num, trivial, HY.out⟩
            case measure => simp [intOf]; omega
          · skip
            by_cases r2 : c.toNat ≤ 47
            · have g1 : (c.toNat : Int) < 97 := by omega
              have g3 : ¬ (c.toNat : Int) = 45 := by omega
              have g3' : ((c.toNat : Int) == 45) = false := by simp; omega
              have g4 : (c.toNat : Int) < 48 := by omega
              have HN : Hid (nameI (vb s) = false) := nm_bad hlt HC.out (by omega)
              go_wp2
              go_ret
              exact ⟨by rw [HN.out]; rfl, rfl⟩
            · skip
              by_cases r3 : c.toNat ≤ 57
              · have g1 : (c.toNat : Int) < 97 := by omega
                have g3 : ¬ (c.toNat : Int) = 45 := by omega
                have g3' : ((c.toNat : Int) == 45) = false := by simp; omega
                have g4 : ¬ (c.toNat : Int) < 48 := by omega
                have g5 : ¬ (57 : Int) < (c.toNat : Int) := by omega
                have HY : Hid (NmR s (k + 1)) := HD.out.step hlt HC.out (by omega)
                go_wp2
                go_roundw
                case rel => exact ⟨k + 1, by omega, by go_num, trivial, HY.out⟩
                case measure => simp [intOf]; omega
              · skip
                by_cases r4 : c.toNat ≤ 96
                · have g1 : (c.toNat : Int) < 97 := by omega
                  have g3 : ¬ (c.toNat : Int) = 45 := by omega
                  have g3' : ((c.toNat : Int) == 45) = false := by simp; omega
                  have g4 : ¬ (c.toNat : Int) < 48 := by omega
                  have g5 : (57 : Int) < (c.toNat : Int) := by omega
                  have HN : Hid (nameI (vb s) = false) := nm_bad hlt HC.out (by omega)
                  go_wp2
                  go_ret
                  exact ⟨by rw [HN.out]; rfl, rfl⟩
                · skip
                  by_cases r5 : c.toNat ≤ 122
                  · have g1 : ¬ (c.toNat : Int) < 97 := by omega
                    have g2 : ¬ (122 : Int) < (c.toNat : Int) := by omega
                    have HY : Hid (NmR s (k + 1)) := HD.out.step hlt HC.out (by omega)
                    go_wp2
                    go_roundw
                    case rel => exact ⟨k + 1, by omega, by go_num, trivial, HY.out⟩
                    case measure => simp [intOf]; omega
                  · skip
                    have g1 : ¬ (c.toNat : Int) < 97 := by omega
                    have g2 : (122 : Int) < (c.toNat : Int) := by omega
                    have g3 : ¬ (c.toNat : Int) = 45 := by omega
                    have g3' : ((c.toNat : Int) == 45) = false := by simp; omega
                    have g4 : ¬ (c.toNat : Int) < 48 := by omega
                    have g5 : (57 : Int) < (c.toNat : Int) := by omega
                    have HN : Hid (nameI (vb s) = false) := nm_bad hlt HC.out (by omega)
                    go_wp2
                    go_ret
                    exact ⟨by rw [HN.out]; rfl, rfl⟩
    · have hlt' : ¬ (k : Int) < (s.size : Int) := by omega
      obtain rfl : k = s.size := by omega
      have HR : Hid (nameI (vb s) = decide (1 ≤ s.size ∧ s.size ≤ 20)) := HD.out.done
      by_cases h1 : 1 ≤ s.size
      · have h1' : (1 : Int) ≤ (s.size : Int) := by omega
        by_cases h20 : s.size ≤ 20
        · have h20' : (s.size : Int) ≤ 20 := by omega
          have HN : Hid (nameI (vb s) = true) := by show _ = _; rw [HR.out]; exact decide_eq_true ⟨h1, h20⟩
          go_wp2
          go_ret
          exact ⟨by rw [HN.out]; rfl, rfl⟩
        · have h20' : ¬ (s.size : Int) ≤ 20 := by omega
          have HN : Hid (nameI (vb s) = false) := by show _ = _; rw [HR.out]; exact decide_eq_false fun h => h20 h.2
          go_wp2
          go_ret
          exact ⟨by rw [HN.out]; rfl, rfl⟩
      · have h1' : ¬ (1 : Int) ≤ (s.size : Int) := by omega
        have HN : Hid (nameI (vb s) = false) := by show _ = _; rw [HR.out]; exact decide_eq_false fun h => h1 h.1
        go_wp2
        go_ret
        exact ⟨by rw [HN.out]; rfl, rfl⟩
end Go.Proofs.YtkbhckjpmgkgjaaGreatDoor
namespace Go.Proofs.YtkbhckjpmgkgjaaGreatDoor
open Go.RowKit

abbrev tmC (op : ByteArray) (v : Ver) : Array Value := #[.string op, .int .i64 v.n0, .int .i64 v.n1, .int .i64 v.n2, .int .i64 v.n3, .int .i64 v.cnt, .string v.tag]
abbrev encT (op : ByteArray) (v : Ver) : List Value := [.string op, .int .i64 v.n0, .int .i64 v.n1, .int .i64 v.n2, .int .i64 v.n3, .int .i64 v.cnt, .string v.tag]
theorem tm_one (op : ByteArray) (v : Ver) : (tmC op v).all (·.oneCell') = true := by kernel_rfl
theorem infoT : (Tryz.prog.info? 159).map (·.size) = some 7 := by kernel_rfl
theorem infoTz : (Tryz.prog.info? 159).map (fun i => (i.zero, i.size, i.bytes)) = some (some (.agg (tmC ⟨#[]⟩ zeroVer)), 7, 72) := by kernel_rfl
theorem resultsRt : Tryz.f80.results = #[.cell 2 159, .tmp 3] := by kernel_rfl
/-- What term tells. -/
def TmPost (r : Option Tm) (w : World) (e : Ending) (w' : World) : Prop := ∃ (op : ByteArray) (v : Ver), e = .returned (.tuple #[.agg (tmC op v), .bool r.isSome]) ∧ (∀ t, r = some t → t = (vb op, v)) ∧ Below w.heap.size w w'
abbrev sgC : Array Value := #[.string ⟨#[62, 61]⟩, .string ⟨#[60, 61]⟩, .string ⟨#[62]⟩, .string ⟨#[60]⟩, .string ⟨#[61]⟩, .string ⟨#[94]⟩, .string ⟨#[126]⟩]
theorem sg_at (i : Nat) (h : i < 7) : ∃ x : ByteArray, sgC[i]? = some (.string x) ∧ signsR[i]? = some (vb x) ∧ 1 ≤ x.size ∧ x.size ≤ 2 := by
  match i, h with
  | 0, _ => exact ⟨_, rfl, rfl, by decide, by decide⟩
  | 1, _ => exact ⟨_, rfl, rfl, by decide, by decide⟩
  | 2, _ => exact ⟨_, rfl, rfl, by decide, by decide⟩
  | 3, _ => exact ⟨_, rfl, rfl, by decide, by decide⟩
  | 4, _ => exact ⟨_, rfl, rfl, by decide, by decide⟩
  | 5, _ => exact ⟨_, rfl, rfl, by decide, by decide⟩
  | 6, _ => exact ⟨_, rfl, rfl, by decide, by decide⟩
def sgP (l g : By) : Bool := decide (g.length < l.length) && (l.take g.length == g)
/-- What holds while the signs are gone through. -/
structure TmR (w wr : World) (s : ByteArray) (i : Nat) : Prop where
  z : Row wr w.heap.size (tmC ⟨#[]⟩ zeroVer) 159
  sg : Row wr (w.heap.size + 1) sgC 9
  old : Below w.heap.size w wr
  eq : signR (vb s) = ((signsR.drop i).find? (sgP (vb s))).map fun g => (g, (vb s).drop g.length)
theorem TmR.drewN {w wr : World} {s : ByteArray} {i : Nat} (h : TmR w wr s i) (q : Nat) : TmR w (wr.drewN q) s i := ⟨h.z, h.sg, h.old.trans ⟨rfl, rfl, rfl, Nat.le_refl _, fun _ _ => rfl⟩, h.eq⟩
theorem TmR.skip {w wr : World} {s : ByteArray} {i : Nat} (h : TmR w wr s i) {g : By} (hg : signsR[i]? = some g) (hp : sgP (vb s) g = false) : TmR w wr s (i + 1) := by
  refine ⟨h.z, h.sg, h.old, ?_⟩
  have hl := (List.getElem?_eq_some_iff.1 hg)
  rw [h.eq, List.drop_eq_getElem_cons hl.1, hl.2, List.find?_cons, hp]
theorem TmR.hit {w wr : World} {s : ByteArray} {i : Nat} (h : TmR w wr s i) {g : By} (hg : signsR[i]? = some g) (hp : sgP (vb s) g = true) : signR (vb s) = some (g, (vb s).drop g.length) := by
  have hl := (List.getElem?_eq_some_iff.1 hg)
  rw [h.eq, List.drop_eq_getElem_cons hl.1, hl.2, List.find?_cons, hp]
  rfl
theorem TmR.none {w wr : World} {s : ByteArray} {i : Nat} (h : TmR w wr s i) (hi : 7 ≤ i) : signR (vb s) = Option.none := by
  rw [h.eq, List.drop_of_length_le (by show 7 ≤ i; exact hi)]
  rfl
set_option maxRecDepth 40000 in
set_option maxHeartbeats 8000000 in
theorem refTerm_ok (s : ByteArray) (w : World) (hs : s.size ≤ 4194304) : Calls Tryz.prog 80 #[.string s] w (TmPost (termR (vb s)) w) := by
  by_cases h42 : vb s = [42]
  · obtain rfl : s = ⟨#[42]⟩ := vb_inj h42
    have HT : Hid (termR (vb ⟨#[42]⟩) = some ([42], zeroVer)) := rfl
    clear h42 hs
    go_enter Tryz.func80, Tryz.ntmps80
    go_wp2_with (refine wpList_store_new rfl 159 _ _ rfl w (tmC ⟨#[]⟩ zeroVer) (tmC ⟨#[42]⟩ zeroVer) 159 rfl w.heap.size rfl rfl rfl infoT rfl (tm_one _ _) ?_)
    exact bodyPost_ret (results_cell_row2 resultsRt _ _ w.heap.size 159 (tmC ⟨#[42]⟩ zeroVer) (0, 0) _ rfl (Row.new _ _ _) Tryz.underlying159 rfl infoT) rfl ⟨⟨#[42]⟩, zeroVer, rfl, (fun t ht => by cases ht; rfl), (Below.refl _ _).alloc (Nat.le_refl _) _⟩
  · obtain ⟨hq1, hq2⟩ := bytes_ne h42
    have HT : Hid (termR (vb s) = match signR (vb s) with
      | none => none
      | some p => match parseV p.2 with
        | none => none
        | some v => some (p.1, v)) := by show _ = _; unfold termR; rw [if_neg h42]; rfl
    have h0 : TmR w ((w.alloc (.cells (tmC ⟨#[]⟩ zeroVer) 159)).alloc (.cells sgC 9)) s 0 := by
      refine ⟨(Row.new w _ _).alloc _, ?_, ((Below.refl _ _).alloc (Nat.le_refl _) _).alloc (by simp) _, rfl⟩
      have h := Row.new (w.alloc (.cells (tmC ⟨#[]⟩ zeroVer) 159)) sgC 9
      rw [World.size_alloc] at h
      exact h
    obtain ⟨w2, hw2⟩ : ∃ x, x = (w.alloc (.cells (tmC ⟨#[]⟩ zeroVer) 159)).alloc (.cells sgC 9) := ⟨_, rfl⟩
    have hw2' : (w.alloc (.cells #[.string ⟨#[]⟩, .int .i64 0, .int .i64 0, .int .i64 0, .int .i64 0, .int .i64 0, .string ⟨#[]⟩] 159)).alloc (.cells #[.string ⟨#[62, 61]⟩, .string ⟨#[60, 61]⟩, .string ⟨#[62]⟩, .string ⟨#[60]⟩, .string ⟨#[61]⟩, .string ⟨#[94]⟩, .string ⟨#[126]⟩] 9) = w2 := hw2.symm
    rw [← hw2] at h0
    have H0 : Hid (TmR w w2 s 0) := h0
    have HSZ : Hid (s.size ≤ 4194304) := hs
    clear h0 hw2 h42
    go_enter Tryz.func80, Tryz.ntmps80
    go_wp2
    clear hw2' hq1 hq2
    go_loopw [5] (fun iv wr => ∃ i : Nat, i ≤ 7 ∧ iv = .int .i64 i ∧ TmR w wr s i) (fun iv _ => 7 - (intOf iv).toNat)
    case atStart => exact ⟨0, Nat.zero_le _, rfl, H0.out⟩
    case round =>
      obtain ⟨i, hi, rfl, hR⟩ := hrel
      have HR : Hid (TmR w wr s i) := hR
      clear hR H0
      by_cases hlt : i < 7
      · obtain ⟨x, hx1, hx2, hx3, hx4⟩ := sg_at i hlt
        have hlt' : (i : Int) < 7 := by omega
        have hcx : wr.cell? ⟨w.heap.size + 1, i, none⟩ = some (.string x) := ((TmR.sg HR.out).cell i).trans hx1
        have HX2 : Hid (signsR[i]? = some (vb x)) := hx2
        clear hx2
        by_cases hlen : x.size < s.size
        · have g1 : (x.size : Int) < (s.size : Int) := by omega
          have g2 : decide ((x.size : Int) < (s.size : Int)) = true := decide_eq_true g1
          have g3 : decide (x.size < s.size) = true := decide_eq_true hlen
          have g4 : (x.size : Int) ≤ (s.size : Int) := by omega
          obtain ⟨t, ht⟩ : ∃ t, t = s.extract 0 x.size := ⟨_, rfl⟩
          have ht' := ht.symm
          have HTv : Hid (vb t = (vb s).take x.size) := by show _ = _; rw [ht, vb_headX]
          by_cases htx : t = x
          · have HP : Hid (sgP (vb s) (vb x) = true) := by
              show _ = _
              unfold sgP
              rw [vb_len, vb_len, decide_eq_true hlen, ← HTv.out, htx]
              simp
            have HSg := TmR.hit HR.out HX2.out HP.out
            obtain ⟨t2, ht2⟩ : ∃ t, t = s.extract x.size s.size := ⟨_, rfl⟩
            have ht2' := ht2.symm
            have HSZ2 : Hid (t2.size ≤ 4194304) := by show _ ≤ _; rw [ht2, ByteArray.size_extract]; have := HSZ.out; omega
            have hcase0 : termR (vb s) = match parseV (vb t2) with
              | none => none
              | some v => some (vb x, v) := by
              rw [HT.out, HSg, ht2, vb_rest, vb_len]
            subst htx
            clear HSg HP HTv HT ht2 ht
            cases hp : parseV (vb t2) with
            | none =>
              rw [hp] at hcase0
              obtain ⟨u, hu⟩ : ∃ u, u = zeroV := ⟨_, rfl⟩
              have hpe : parseE t2 = .tuple #[verV u, .int .i64 20] := by rw [hu]; exact parseE_no hp
              have hcase := hcase0
              clear hp hu hcase0
              go_wp2
              go_quiet (fail)
              obtain ⟨wz, hwz⟩ : ∃ z, z = wr.drewN nq := ⟨_, rfl⟩
              rw [← hwz]
              have HRz : Hid (TmR w wz s i) := by rw [hwz]; exact TmR.drewN HR.out nq
              clear hwz hcx HR
              have HTE : Hid (termR (vb s) = none) := hcase
              have hpc := refParse_ok t2 wz (by have := HSZ2.out; omega)
              rw [hpe] at hpc
              have HBz : Hid (Below w.heap.size w wz) := TmR.old HRz.out
              have HZz : Hid (Row wz w.heap.size (tmC ⟨#[]⟩ zeroVer) 159) := TmR.z HRz.out
              have HSz : Hid (Row wz (w.heap.size + 1) sgC 9) := TmR.sg HRz.out
              have hcz : wz.cell? ⟨w.heap.size + 1, i, none⟩ = some (.string t) := (HSz.out.cell i).trans hx1
              clear hpe hcase
              go_wp2_with fail
              refine hpc.mono ?_
              rintro e w4 ⟨rfl, hb4⟩
              have hz5 : Row (w4.alloc (.cells (verC u) 104)) w.heap.size (tmC ⟨#[]⟩ zeroVer) 159 := (HZz.out.below hb4 HZz.out.lt).alloc _
              have hs5 : Row (w4.alloc (.cells (verC u) 104)) (w.heap.size + 1) sgC 9 := (HSz.out.below hb4 HSz.out.lt).alloc _
              have hv5 : Row (w4.alloc (.cells (verC u) 104)) w4.heap.size (verC u) 104 := Row.new _ _ _
              have hb5 : Below w.heap.size w (w4.alloc (.cells (verC u) 104)) := (HBz.out.trans (hb4.mono HBz.out.size)).alloc (Nat.le_trans HBz.out.size hb4.size) _
              have hlt4 : w.heap.size + 1 < w4.heap.size := Nat.lt_of_lt_of_le HSz.out.lt hb4.size
              clear hpc hb4 hcz
              go_upto_region 9 with (refine wpList_store_new rfl 104 _ _ rfl w4 zeroC (verC u) 104 rfl w4.heap.size rfl rfl rfl infoRs rfl (verC_one _) ?_)
              refine wp_region_permA [(false, 0), (false, 1), (false, 2), (false, 3), (false, 4), (false, 5), (false, 6), (false, 7), (true, 8), (true, 9)] (fun wx => Row wx (w.heap.size + 1) sgC 9 ∧ Row wx w4.heap.size (verC u) 104 ∧ True) (by kernel_rfl) (by kernel_rfl) ⟨hs5, hv5, trivial⟩ ?_
              refine a_value (some 51) ?_ rfl rfl (by rfl) (fun wx hw => ?_) ?_
              rotate_left
              · go_simp
                with_reducible rfl
              simp only [Act.put, List.setIfInBounds_toArray, List.set_cons_zero, List.set_cons_succ]
              refine a_value (some 52) ?_ rfl rfl (by rfl) (fun wx hw => ?_) ?_
              rotate_left
              · go_simp
                with_reducible rfl
              simp only [Act.put, List.setIfInBounds_toArray, List.set_cons_zero, List.set_cons_succ]
              refine a_value (some 53) ?_ rfl rfl (by rfl) (fun wx hw => ?_) ?_
              rotate_left
              · go_simp
                with_reducible rfl
              simp only [Act.put, List.setIfInBounds_toArray, List.set_cons_zero, List.set_cons_succ]
              refine a_value (some 54) (.string t) rfl rfl (by rfl) (fun wx hw => ?_) ?_
              · have hc := (hw.1.cell i).trans hx1
                go_simp
              simp only [Act.put, List.setIfInBounds_toArray, List.set_cons_zero, List.set_cons_succ]
              refine a_load_row (some 55) 104 _ rfl rfl rfl (by rfl) w4.heap.size rfl (verC u) 104 _ (fun wx hw => hw.2.1) Tryz.underlying104 rfl infoRs ?_
              simp only [Act.put, List.setIfInBounds_toArray, List.set_cons_zero, List.set_cons_succ]
              refine a_value (some 56) ?_ rfl rfl (by rfl) (fun wx hw => ?_) ?_
              rotate_left
              · go_simp
                with_reducible rfl
              simp only [Act.put, List.setIfInBounds_toArray, List.set_cons_zero, List.set_cons_succ]
              refine a_value (some 57) ?_ rfl rfl (by rfl) (fun wx hw => ?_) ?_
              rotate_left
              · go_simp
                with_reducible rfl
              simp only [Act.put, List.setIfInBounds_toArray, List.set_cons_zero, List.set_cons_succ]
              refine a_value (some 58) ?_ rfl rfl (by rfl) (fun wx hw => ?_) ?_
              rotate_left
              · go_simp
                with_reducible rfl
              simp only [Act.put, List.setIfInBounds_toArray, List.set_cons_zero, List.set_cons_succ]
              refine a_wp rfl (by rfl) ?_
              refine wp_store_row 159 _ _ rfl w.heap.size (tmC t u) rfl rfl 159 (tmC ⟨#[]⟩ zeroVer) hz5 infoT rfl (tm_one _ _) ?_
              refine ⟨⟨Row.other hs5 (by omega), Row.other hv5 (by omega), trivial⟩, ?_⟩
              simp only [Act.put]
              refine a_alone (some 3) (.bool false) ((w4.alloc (.cells (verC u) 104)).drew.setRow w.heap.size (tmC t u)) rfl rfl (by rfl) (by go_simp) ⟨Row.other hs5 (by omega), Row.other hv5 (by omega), trivial⟩ ?_
              simp only [Act.put, List.setIfInBounds_toArray]
              refine a_done ?_
              try simp only [Exit.then]
              go_wp2
              exact bodyPost_ret (results_cell_row2 resultsRt _ _ w.heap.size 159 (tmC t u) (0, 0) _ rfl (Row.setRow hz5) Tryz.underlying159 rfl infoT) rfl ⟨t, u, by rw [HTE.out]; rfl, (fun t ht => by rw [HTE.out] at ht; cases ht), bel_setRow hb5.drew (Nat.le_refl _) _⟩
            | some v =>
              rw [hp] at hcase0
              obtain ⟨u, hu⟩ : ∃ u, u = v := ⟨_, rfl⟩
              have hpe : parseE t2 = .tuple #[verV u, .int .i64 0] := by rw [hu]; exact parseE_yes hp
              have hcase : termR (vb s) = some (vb t, u) := by rw [hu]; exact hcase0
              clear hp hu hcase0
              go_wp2
              go_quiet (fail)
              obtain ⟨wz, hwz⟩ : ∃ z, z = wr.drewN nq := ⟨_, rfl⟩
              rw [← hwz]
              have HRz : Hid (TmR w wz s i) := by rw [hwz]; exact TmR.drewN HR.out nq
              clear hwz hcx HR
              have HTE : Hid (termR (vb s) = some (vb t, u)) := hcase
              have hpc := refParse_ok t2 wz (by have := HSZ2.out; omega)
              rw [hpe] at hpc
              have HBz : Hid (Below w.heap.size w wz) := TmR.old HRz.out
              have HZz : Hid (Row wz w.heap.size (tmC ⟨#[]⟩ zeroVer) 159) := TmR.z HRz.out
              have HSz : Hid (Row wz (w.heap.size + 1) sgC 9) := TmR.sg HRz.out
              have hcz : wz.cell? ⟨w.heap.size + 1, i, none⟩ = some (.string t) := (HSz.out.cell i).trans hx1
              clear hpe hcase
              go_wp2_with fail
              refine hpc.mono ?_
              rintro e w4 ⟨rfl, hb4⟩
              have hz5 : Row (w4.alloc (.cells (verC u) 104)) w.heap.size (tmC ⟨#[]⟩ zeroVer) 159 := (HZz.out.below hb4 HZz.out.lt).alloc _
              have hs5 : Row (w4.alloc (.cells (verC u) 104)) (w.heap.size + 1) sgC 9 := (HSz.out.below hb4 HSz.out.lt).alloc _
              have hv5 : Row (w4.alloc (.cells (verC u) 104)) w4.heap.size (verC u) 104 := Row.new _ _ _
              have hb5 : Below w.heap.size w (w4.alloc (.cells (verC u) 104)) := (HBz.out.trans (hb4.mono HBz.out.size)).alloc (Nat.le_trans HBz.out.size hb4.size) _
              have hlt4 : w.heap.size + 1 < w4.heap.size := Nat.lt_of_lt_of_le HSz.out.lt hb4.size
              clear hpc hb4 hcz
              go_upto_region 9 with (refine wpList_store_new rfl 104 _ _ rfl w4 zeroC (verC u) 104 rfl w4.heap.size rfl rfl rfl infoRs rfl (verC_one _) ?_)
              refine wp_region_permA [(false, 0), (false, 1), (false, 2), (false, 3), (false, 4), (false, 5), (false, 6), (false, 7), (true, 8), (true, 9)] (fun wx => Row wx (w.heap.size + 1) sgC 9 ∧ Row wx w4.heap.size (verC u) 104 ∧ True) (by kernel_rfl) (by kernel_rfl) ⟨hs5, hv5, trivial⟩ ?_
              refine a_value (some 51) ?_ rfl rfl (by rfl) (fun wx hw => ?_) ?_
              rotate_left
              · go_simp
                with_reducible rfl
              simp only [Act.put, List.setIfInBounds_toArray, List.set_cons_zero, List.set_cons_succ]
              refine a_value (some 52) ?_ rfl rfl (by rfl) (fun wx hw => ?_) ?_
              rotate_left
              · go_simp
                with_reducible rfl
              simp only [Act.put, List.setIfInBounds_toArray, List.set_cons_zero, List.set_cons_succ]
              refine a_value (some 53) ?_ rfl rfl (by rfl) (fun wx hw => ?_) ?_
              rotate_left
              · go_simp
                with_reducible rfl
              simp only [Act.put, List.setIfInBounds_toArray, List.set_cons_zero, List.set_cons_succ]
              refine a_value (some 54) (.string t) rfl rfl (by rfl) (fun wx hw => ?_) ?_
              · have hc := (hw.1.cell i).trans hx1
                go_simp
              simp only [Act.put, List.setIfInBounds_toArray, List.set_cons_zero, List.set_cons_succ]
              refine a_load_row (some 55) 104 _ rfl rfl rfl (by rfl) w4.heap.size rfl (verC u) 104 _ (fun wx hw => hw.2.1) Tryz.underlying104 rfl infoRs ?_
              simp only [Act.put, List.setIfInBounds_toArray, List.set_cons_zero, List.set_cons_succ]
              refine a_value (some 56) ?_ rfl rfl (by rfl) (fun wx hw => ?_) ?_
              rotate_left
              · go_simp
                with_reducible rfl
              simp only [Act.put, List.setIfInBounds_toArray, List.set_cons_zero, List.set_cons_succ]
              refine a_value (some 57) ?_ rfl rfl (by rfl) (fun wx hw => ?_) ?_
              rotate_left
              · go_simp
                with_reducible rfl
              simp only [Act.put, List.setIfInBounds_toArray, List.set_cons_zero, List.set_cons_succ]
              refine a_value (some 58) ?_ rfl rfl (by rfl) (fun wx hw => ?_) ?_
              rotate_left
              · go_simp
                with_reducible rfl
              simp only [Act.put, List.setIfInBounds_toArray, List.set_cons_zero, List.set_cons_succ]
              refine a_wp rfl (by rfl) ?_
              refine wp_store_row 159 _ _ rfl w.heap.size (tmC t u) rfl rfl 159 (tmC ⟨#[]⟩ zeroVer) hz5 infoT rfl (tm_one _ _) ?_
              refine ⟨⟨Row.other hs5 (by omega), Row.other hv5 (by omega), trivial⟩, ?_⟩
              simp only [Act.put]
              refine a_alone (some 3) (.bool true) ((w4.alloc (.cells (verC u) 104)).drew.setRow w.heap.size (tmC t u)) rfl rfl (by rfl) (by go_simp) ⟨Row.other hs5 (by omega), Row.other hv5 (by omega), trivial⟩ ?_
              simp only [Act.put, List.setIfInBounds_toArray]
              refine a_done ?_
              try simp only [Exit.then]
              go_wp2
              exact bodyPost_ret (results_cell_row2 resultsRt _ _ w.heap.size 159 (tmC t u) (0, 0) _ rfl (Row.setRow hz5) Tryz.underlying159 rfl infoT) rfl ⟨t, u, by rw [HTE.out]; rfl, (fun t ht => by rw [HTE.out] at ht; cases ht; rfl), bel_setRow hb5.drew (Nat.le_refl _) _⟩
          · have hne1 : ¬ t.toList = x.toList := fun e => htx (by
              rw [ByteArray.toList_eq, ByteArray.toList_eq] at e
              exact vb_inj e)
            have hne2 : (t.toList == x.toList) = false := by simpa using hne1
            have HP : Hid (sgP (vb s) (vb x) = false) := by
              show _ = _
              unfold sgP
              rw [vb_len, vb_len, decide_eq_true hlen, ← HTv.out, Bool.true_and]
              simp only [beq_eq_false_iff_ne]
              exact fun e => htx (vb_inj e)
            have HN : Hid (∀ q, TmR w (wr.drewN q) s (i + 1)) := fun q => (TmR.skip HR.out HX2.out HP.out).drewN q
            clear ht htx HTv
            go_wp2
            go_quiet (fail)
            go_wp2
            go_roundw
            case rel => exact ⟨i + 1, by omega, by go_num, HN.out _⟩
            case measure => simp [intOf]; omega
        · have g1 : ¬ (x.size : Int) < (s.size : Int) := by omega
          have g2 : decide ((x.size : Int) < (s.size : Int)) = false := decide_eq_false g1
          have g3 : decide (x.size < s.size) = false := decide_eq_false hlen
          have HP : Hid (sgP (vb s) (vb x) = false) := by
            show _ = _
            unfold sgP
            rw [vb_len, vb_len, decide_eq_false hlen]
            rfl
          have HN : Hid (∀ q, TmR w (wr.drewN q) s (i + 1)) := fun q => (TmR.skip HR.out HX2.out HP.out).drewN q
          go_wp2
          go_quiet (fail)
          go_wp2
          go_roundw
          case rel => exact ⟨i + 1, by omega, by go_num, HN.out _⟩
          case measure => simp [intOf]; omega
      · have hlt' : ¬ (i : Int) < 7 := by omega
        have HTE : Hid (termR (vb s) = none) := by show _ = _; rw [HT.out, TmR.none HR.out (by omega)]
        have hz := TmR.z HR.out
        have HB : Hid (Below w.heap.size w wr) := TmR.old HR.out
        go_wp2_with (refine wpList_store_row rfl 159 _ _ rfl w.heap.size (tmC ⟨#[]⟩ zeroVer) rfl rfl 159 (tmC ⟨#[]⟩ zeroVer) hz infoT rfl (tm_one _ _) ?_)
        exact bodyPost_ret (results_cell_row2 resultsRt _ _ w.heap.size 159 (tmC ⟨#[]⟩ zeroVer) (0, 0) _ rfl (Row.setRow hz) Tryz.underlying159 rfl infoT) rfl ⟨⟨#[]⟩, zeroVer, by rw [HTE.out]; rfl, (fun t ht => by rw [HTE.out] at ht; cases ht), bel_setRow HB.out (Nat.le_refl _) _⟩
end Go.Proofs.YtkbhckjpmgkgjaaGreatDoor
namespace Go.Proofs.YtkbhckjpmgkgjaaGreatDoor
open Go.RowKit

/-- What holds while a term is asked. -/
structure HsS (w : World) (op : ByteArray) (u x : Ver) (wx : World) : Prop where
  a : Row wx w.heap.size (tmC op u) 159
  b : Row wx (w.heap.size + 1) (verC x) 104
  old : Below w.heap.size w wx
theorem HsS.next {w : World} {op : ByteArray} {u x : Ver} {wx w' : World} (h : HsS w op u x wx) (hb : Below wx.heap.size wx w') : HsS w op u x w' :=
  ⟨h.a.below hb h.a.lt, h.b.below hb h.b.lt, h.old.trans (hb.mono h.old.size)⟩
theorem HsS.start (w : World) (op : ByteArray) (u x : Ver) : HsS w op u x ((w.alloc (.cells (tmC op u) 159)).alloc (.cells (verC x) 104)) := by
  refine ⟨(Row.new w _ _).alloc _, ?_, ((Below.refl _ _).alloc (Nat.le_refl _) _).alloc (by simp) _⟩
  have h := Row.new (w.alloc (.cells (tmC op u) 159)) (verC x) 104
  rw [World.size_alloc] at h
  exact h
theorem row_tv {w : World} {g : Nat} {op : ByteArray} {u : Ver} (h : Row w g (tmC op u) 159) : w.rangeAt g 1 (encV1 u) := fun j y hj => by
  have h6 : j < 6 := (List.getElem?_eq_some_iff.1 hj).1
  rw [h.cell (1 + j), ← hj]
  match j, h6 with
  | 0, _ => rfl
  | 1, _ => rfl
  | 2, _ => rfl
  | 3, _ => rfl
  | 4, _ => rfl
  | 5, _ => rfl
/-- A row's part is loaded behind a guard that stands. -/
theorem wpList_load_midW {P : Program} {ops : Array Oper} {rest : List Oper} {o : Oper} {a : Act} {w : World} {Q : Exit → Act → World → Prop} (hw : Region.wanted o (yielded ops a.tmps) = true) (ty : TypeId) (x : Operand) (ho : o.op = .load ty x) (b off : Nat) (hx : a.eval x = .pointer (some ⟨b, off, none⟩)) (cs : List Value) (d : TypeDesc)
    (hC : w.rangeAt b off cs) (hu : P.underlying ty = some d) (hd : d.isRow = true) (hs : (P.info? ty).map (·.size) = some cs.length) (k : wpList P ops Q rest (a.put o.dst (.agg cs.toArray)) w) : wpList P ops Q (o :: rest) a w := by
  refine BigFrame.wpList_want hw fun K hK => ?_
  unfold Oper.wp execOp
  simp only [ho, hx, Instr.loadAt, Instr.sureAddr, Sem.run_bind, Sem.run_pure, Result.andThen_ok, run_loadVar_mid w b off ty cs d hC hu hd hs]
  exact hK _ _ k
/-- How far the first number that is not 0 has been sought, from behind. -/
def FpI (v : Ver) (n k : Nat) (m : Int) : Prop := ((∀ j, k ≤ j → j < n → nAt v j = 0) ∧ m = n) ∨ ∃ j, k ≤ j ∧ j < n ∧ nAt v j ≠ 0 ∧ (∀ i, k ≤ i → i < j → nAt v i = 0) ∧ m = (j : Int) + 1
theorem FpI.zero {v : Ver} {n i : Nat} {m : Int} (h : FpI v n (i + 1) m) (hz : nAt v i = 0) : FpI v n i m := by
  rcases h with ⟨h1, h2⟩ | ⟨j, h1, h2, h3, h4, h5⟩
  · refine Or.inl ⟨fun j hj hn => ?_, h2⟩
    by_cases e : j = i
    · rw [e]; exact hz
    · exact h1 j (by omega) hn
  · refine Or.inr ⟨j, by omega, h2, h3, fun k hk hj => ?_, h5⟩
    by_cases e : k = i
    · rw [e]; exact hz
    · exact h4 k (by omega) hj
theorem FpI.some {v : Ver} {n i : Nat} (hi : i < n) (hz : nAt v i ≠ 0) : FpI v n i ((i : Int) + 1) := Or.inr ⟨i, Nat.le_refl _, hi, hz, fun k h1 h2 => absurd h1 (by omega), rfl⟩
theorem FpI.done {v : Ver} {n : Nat} {m : Int} (h : FpI v n 0 m) (hv : May v) (hn : v.cnt = (n : Int)) : m = firstP v := by
  have hc := hv.cnt
  rcases h with ⟨h1, h2⟩ | ⟨j, h1, h2, h3, h4, h5⟩
  · rw [firstP_none hv (fun j hj => h1 j (Nat.zero_le _) (by omega)), h2, hn]
  · rw [firstP_at (fun k hk => h4 k (Nat.zero_le _) hk) (by omega) h3, h5]
theorem FpI.small {v : Ver} {n k : Nat} {m : Int} (h : FpI v n k m) (hn : n ≤ 4) : 0 ≤ m ∧ m ≤ 4 := by
  rcases h with ⟨_, h2⟩ | ⟨j, _, h2, _, _, h5⟩ <;> omega
set_option maxRecDepth 20000 in
set_option maxHeartbeats 4000000 in
theorem has_st (u x : Ver) (w : World) : Calls Tryz.prog 132 #[.agg (tmC ⟨#[42]⟩ u), verV x] w fun e w' => e = .returned (.bool (true)) ∧ Below w.heap.size w w' := by
  have hs := HsS.start w ⟨#[42]⟩ u x
  obtain ⟨w1, hw1⟩ : ∃ y, y = (w.alloc (.cells (tmC ⟨#[42]⟩ u) 159)).alloc (.cells (verC x) 104) := ⟨_, rfl⟩
  have hw1' := hw1.symm
  rw [← hw1] at hs
  have HS1 : Hid (HsS w ⟨#[42]⟩ u x w1) := hs
  have hcm := refCompare_ok x u w1
  have hrx := hs.b
  have hru := row_tv hs.a
  clear hs hw1
  go_enter Tryz.func132, Tryz.ntmps132
  go_wp2_with (first | refine wpList_load_mid rfl 104 _ rfl w.heap.size 1 rfl _ _ hru Tryz.underlying104 rfl infoRs ?_ | refine wpList_load_row rfl 104 _ rfl (w.heap.size + 1) rfl 104 (verC x) (0, 0) _ hrx Tryz.underlying104 rfl infoRs ?_ | fail)
  refine hcm.mono ?_
  rintro e w2 ⟨rfl, hb2⟩
  have HS2 : Hid (HsS w ⟨#[42]⟩ u x w2) := HsS.next HS1.out hb2
  have cop : w2.cell? ⟨w.heap.size, 0, none⟩ = some (.string ⟨#[42]⟩) := ((HsS.a HS2.out).cell 0).trans rfl
  have HB2 : Hid (Below w.heap.size w w2) := HsS.old HS2.out
  clear hcm hb2 hrx hru hw1' HS1
  go_wp2
  go_ret
  exact ⟨(by first | rfl | (congr 2; simp) | (congr 2; exact Bool.eq_iff_iff.2 (by simp))), HB2.out⟩
set_option maxRecDepth 20000 in
set_option maxHeartbeats 4000000 in
theorem has_ge (u x : Ver) (w : World) : Calls Tryz.prog 132 #[.agg (tmC ⟨#[62, 61]⟩ u), verV x] w fun e w' => e = .returned (.bool (decide (0 ≤ cmpV x u))) ∧ Below w.heap.size w w' := by
  have hs := HsS.start w ⟨#[62, 61]⟩ u x
  obtain ⟨w1, hw1⟩ : ∃ y, y = (w.alloc (.cells (tmC ⟨#[62, 61]⟩ u) 159)).alloc (.cells (verC x) 104) := ⟨_, rfl⟩
  have hw1' := hw1.symm
  rw [← hw1] at hs
  have HS1 : Hid (HsS w ⟨#[62, 61]⟩ u x w1) := hs
  have hcm := refCompare_ok x u w1
  have hrx := hs.b
  have hru := row_tv hs.a
  obtain ⟨cz, hcz⟩ : ∃ c, c = cmpV x u := ⟨_, rfl⟩
  rw [← hcz] at hcm
  rw [← hcz]
  clear hcz
  clear hs hw1
  go_enter Tryz.func132, Tryz.ntmps132
  go_wp2_with (first | refine wpList_load_mid rfl 104 _ rfl w.heap.size 1 rfl _ _ hru Tryz.underlying104 rfl infoRs ?_ | refine wpList_load_row rfl 104 _ rfl (w.heap.size + 1) rfl 104 (verC x) (0, 0) _ hrx Tryz.underlying104 rfl infoRs ?_ | fail)
  refine hcm.mono ?_
  rintro e w2 ⟨rfl, hb2⟩
  have HS2 : Hid (HsS w ⟨#[62, 61]⟩ u x w2) := HsS.next HS1.out hb2
  have cop : w2.cell? ⟨w.heap.size, 0, none⟩ = some (.string ⟨#[62, 61]⟩) := ((HsS.a HS2.out).cell 0).trans rfl
  have HB2 : Hid (Below w.heap.size w w2) := HsS.old HS2.out
  clear hcm hb2 hrx hru hw1' HS1
  go_wp2
  go_ret
  exact ⟨(by first | rfl | (congr 2; simp) | (congr 2; exact Bool.eq_iff_iff.2 (by simp))), HB2.out⟩
set_option maxRecDepth 20000 in
set_option maxHeartbeats 4000000 in
theorem has_le (u x : Ver) (w : World) : Calls Tryz.prog 132 #[.agg (tmC ⟨#[60, 61]⟩ u), verV x] w fun e w' => e = .returned (.bool (decide (cmpV x u ≤ 0))) ∧ Below w.heap.size w w' := by
  have hs := HsS.start w ⟨#[60, 61]⟩ u x
  obtain ⟨w1, hw1⟩ : ∃ y, y = (w.alloc (.cells (tmC ⟨#[60, 61]⟩ u) 159)).alloc (.cells (verC x) 104) := ⟨_, rfl⟩
  have hw1' := hw1.symm
  rw [← hw1] at hs
  have HS1 : Hid (HsS w ⟨#[60, 61]⟩ u x w1) := hs
  have hcm := refCompare_ok x u w1
  have hrx := hs.b
  have hru := row_tv hs.a
  obtain ⟨cz, hcz⟩ : ∃ c, c = cmpV x u := ⟨_, rfl⟩
  rw [← hcz] at hcm
  rw [← hcz]
  clear hcz
  clear hs hw1
  go_enter Tryz.func132, Tryz.ntmps132
  go_wp2_with (first | refine wpList_load_mid rfl 104 _ rfl w.heap.size 1 rfl _ _ hru Tryz.underlying104 rfl infoRs ?_ | refine wpList_load_row rfl 104 _ rfl (w.heap.size + 1) rfl 104 (verC x) (0, 0) _ hrx Tryz.underlying104 rfl infoRs ?_ | fail)
  refine hcm.mono ?_
  rintro e w2 ⟨rfl, hb2⟩
  have HS2 : Hid (HsS w ⟨#[60, 61]⟩ u x w2) := HsS.next HS1.out hb2
  have cop : w2.cell? ⟨w.heap.size, 0, none⟩ = some (.string ⟨#[60, 61]⟩) := ((HsS.a HS2.out).cell 0).trans rfl
  have HB2 : Hid (Below w.heap.size w w2) := HsS.old HS2.out
  clear hcm hb2 hrx hru hw1' HS1
  go_wp2
  go_ret
  exact ⟨(by first | rfl | (congr 2; simp) | (congr 2; exact Bool.eq_iff_iff.2 (by simp))), HB2.out⟩
set_option maxRecDepth 20000 in
set_option maxHeartbeats 4000000 in
theorem has_gt (u x : Ver) (w : World) : Calls Tryz.prog 132 #[.agg (tmC ⟨#[62]⟩ u), verV x] w fun e w' => e = .returned (.bool (decide (0 < cmpV x u))) ∧ Below w.heap.size w w' := by
  have hs := HsS.start w ⟨#[62]⟩ u x
  obtain ⟨w1, hw1⟩ : ∃ y, y = (w.alloc (.cells (tmC ⟨#[62]⟩ u) 159)).alloc (.cells (verC x) 104) := ⟨_, rfl⟩
  have hw1' := hw1.symm
  rw [← hw1] at hs
  have HS1 : Hid (HsS w ⟨#[62]⟩ u x w1) := hs
  have hcm := refCompare_ok x u w1
  have hrx := hs.b
  have hru := row_tv hs.a
  obtain ⟨cz, hcz⟩ : ∃ c, c = cmpV x u := ⟨_, rfl⟩
  rw [← hcz] at hcm
  rw [← hcz]
  clear hcz
  clear hs hw1
  go_enter Tryz.func132, Tryz.ntmps132
  go_wp2_with (first | refine wpList_load_mid rfl 104 _ rfl w.heap.size 1 rfl _ _ hru Tryz.underlying104 rfl infoRs ?_ | refine wpList_load_row rfl 104 _ rfl (w.heap.size + 1) rfl 104 (verC x) (0, 0) _ hrx Tryz.underlying104 rfl infoRs ?_ | fail)
  refine hcm.mono ?_
  rintro e w2 ⟨rfl, hb2⟩
  have HS2 : Hid (HsS w ⟨#[62]⟩ u x w2) := HsS.next HS1.out hb2
  have cop : w2.cell? ⟨w.heap.size, 0, none⟩ = some (.string ⟨#[62]⟩) := ((HsS.a HS2.out).cell 0).trans rfl
  have HB2 : Hid (Below w.heap.size w w2) := HsS.old HS2.out
  clear hcm hb2 hrx hru hw1' HS1
  go_wp2
  go_ret
  exact ⟨(by first | rfl | (congr 2; simp) | (congr 2; exact Bool.eq_iff_iff.2 (by simp))), HB2.out⟩
set_option maxRecDepth 20000 in
set_option maxHeartbeats 4000000 in
theorem has_lt (u x : Ver) (w : World) : Calls Tryz.prog 132 #[.agg (tmC ⟨#[60]⟩ u), verV x] w fun e w' => e = .returned (.bool (decide (cmpV x u < 0))) ∧ Below w.heap.size w w' := by
  have hs := HsS.start w ⟨#[60]⟩ u x
  obtain ⟨w1, hw1⟩ : ∃ y, y = (w.alloc (.cells (tmC ⟨#[60]⟩ u) 159)).alloc (.cells (verC x) 104) := ⟨_, rfl⟩
  have hw1' := hw1.symm
  rw [← hw1] at hs
  have HS1 : Hid (HsS w ⟨#[60]⟩ u x w1) := hs
  have hcm := refCompare_ok x u w1
  have hrx := hs.b
  have hru := row_tv hs.a
  obtain ⟨cz, hcz⟩ : ∃ c, c = cmpV x u := ⟨_, rfl⟩
  rw [← hcz] at hcm
  rw [← hcz]
  clear hcz
  clear hs hw1
  go_enter Tryz.func132, Tryz.ntmps132
  go_wp2_with (first | refine wpList_load_mid rfl 104 _ rfl w.heap.size 1 rfl _ _ hru Tryz.underlying104 rfl infoRs ?_ | refine wpList_load_row rfl 104 _ rfl (w.heap.size + 1) rfl 104 (verC x) (0, 0) _ hrx Tryz.underlying104 rfl infoRs ?_ | fail)
  refine hcm.mono ?_
  rintro e w2 ⟨rfl, hb2⟩
  have HS2 : Hid (HsS w ⟨#[60]⟩ u x w2) := HsS.next HS1.out hb2
  have cop : w2.cell? ⟨w.heap.size, 0, none⟩ = some (.string ⟨#[60]⟩) := ((HsS.a HS2.out).cell 0).trans rfl
  have HB2 : Hid (Below w.heap.size w w2) := HsS.old HS2.out
  clear hcm hb2 hrx hru hw1' HS1
  go_wp2
  go_ret
  exact ⟨(by first | rfl | (congr 2; simp) | (congr 2; exact Bool.eq_iff_iff.2 (by simp))), HB2.out⟩
set_option maxRecDepth 20000 in
set_option maxHeartbeats 4000000 in
theorem has_eq (u x : Ver) (w : World) : Calls Tryz.prog 132 #[.agg (tmC ⟨#[61]⟩ u), verV x] w fun e w' => e = .returned (.bool (decide (cmpV x u = 0))) ∧ Below w.heap.size w w' := by
  have hs := HsS.start w ⟨#[61]⟩ u x
  obtain ⟨w1, hw1⟩ : ∃ y, y = (w.alloc (.cells (tmC ⟨#[61]⟩ u) 159)).alloc (.cells (verC x) 104) := ⟨_, rfl⟩
  have hw1' := hw1.symm
  rw [← hw1] at hs
  have HS1 : Hid (HsS w ⟨#[61]⟩ u x w1) := hs
  have hcm := refCompare_ok x u w1
  have hrx := hs.b
  have hru := row_tv hs.a
  obtain ⟨cz, hcz⟩ : ∃ c, c = cmpV x u := ⟨_, rfl⟩
  rw [← hcz] at hcm
  rw [← hcz]
  clear hcz
  clear hs hw1
  go_enter Tryz.func132, Tryz.ntmps132
  go_wp2_with (first | refine wpList_load_mid rfl 104 _ rfl w.heap.size 1 rfl _ _ hru Tryz.underlying104 rfl infoRs ?_ | refine wpList_load_row rfl 104 _ rfl (w.heap.size + 1) rfl 104 (verC x) (0, 0) _ hrx Tryz.underlying104 rfl infoRs ?_ | fail)
  refine hcm.mono ?_
  rintro e w2 ⟨rfl, hb2⟩
  have HS2 : Hid (HsS w ⟨#[61]⟩ u x w2) := HsS.next HS1.out hb2
  have cop : w2.cell? ⟨w.heap.size, 0, none⟩ = some (.string ⟨#[61]⟩) := ((HsS.a HS2.out).cell 0).trans rfl
  have HB2 : Hid (Below w.heap.size w w2) := HsS.old HS2.out
  clear hcm hb2 hrx hru hw1' HS1
  go_wp2
  go_ret
  exact ⟨(by first | rfl | (congr 2; simp) | (congr 2; exact Bool.eq_iff_iff.2 (by simp))), HB2.out⟩
set_option maxRecDepth 20000 in
set_option maxHeartbeats 4000000 in
theorem has_tip (u x : Ver) (w : World) (hm : May u) (hs13 : u.tag.size ≤ 140737488355328) (hc0 : 0 ≤ cmpV x u) : Calls Tryz.prog 132 #[.agg (tmC ⟨#[126]⟩ u), verV x] w fun e w' => e = .returned (.bool ((decide (0 ≤ cmpV x u) && belowB x u (if u.cnt = 1 then 1 else 2)))) ∧ Below w.heap.size w w' := by
  have hs := HsS.start w ⟨#[126]⟩ u x
  obtain ⟨w1, hw1⟩ : ∃ y, y = (w.alloc (.cells (tmC ⟨#[126]⟩ u) 159)).alloc (.cells (verC x) 104) := ⟨_, rfl⟩
  have hw1' := hw1.symm
  rw [← hw1] at hs
  have HS1 : Hid (HsS w ⟨#[126]⟩ u x w1) := hs
  have hcm := refCompare_ok x u w1
  have hrx := hs.b
  have hru := row_tv hs.a
  obtain ⟨cz, hcz⟩ : ∃ c, c = cmpV x u := ⟨_, rfl⟩
  rw [← hcz] at hcm hc0
  rw [← hcz]
  clear hcz
  obtain ⟨R, hR⟩ : ∃ R, R = (decide (0 ≤ cz) && belowB x u (if u.cnt = 1 then 1 else 2)) := ⟨_, rfl⟩
  have HRes : Hid (R = belowB x u (if u.cnt = 1 then 1 else 2)) := by show _ = _; rw [hR, decide_eq_true hc0]; rfl
  rw [← hR]
  clear hR
  have hcnt := hm.cnt
  obtain ⟨n, hn⟩ : ∃ n : Nat, u.cnt = (n : Int) := ⟨u.cnt.toNat, by omega⟩
  have hn1 : 1 ≤ n := by omega
  have hn4 : n ≤ 4 := by omega
  have HN : Hid (u.cnt = (n : Int)) := hn
  have HM : Hid (May u) := hm
  have HTG : Hid (u.tag.size ≤ 140737488355328) := hs13
  clear hcnt hn hm hs13
  clear hs hw1
  go_enter Tryz.func132, Tryz.ntmps132
  go_wp2_with (first | refine wpList_load_mid rfl 104 _ rfl w.heap.size 1 rfl _ _ hru Tryz.underlying104 rfl infoRs ?_ | refine wpList_load_row rfl 104 _ rfl (w.heap.size + 1) rfl 104 (verC x) (0, 0) _ hrx Tryz.underlying104 rfl infoRs ?_ | fail)
  refine hcm.mono ?_
  rintro e w2 ⟨rfl, hb2⟩
  have HS2 : Hid (HsS w ⟨#[126]⟩ u x w2) := HsS.next HS1.out hb2
  have cop : w2.cell? ⟨w.heap.size, 0, none⟩ = some (.string ⟨#[126]⟩) := ((HsS.a HS2.out).cell 0).trans rfl
  have HB2 : Hid (Below w.heap.size w w2) := HsS.old HS2.out
  clear hcm hb2 hrx hru hw1' HS1
  have ccn : w2.cell? ⟨w.heap.size, 5, none⟩ = some (.int .i64 (n : Int)) := ((HsS.a HS2.out).cell 5).trans (by show some (Value.int .i64 u.cnt) = _; rw [HN.out])
  by_cases h1 : n = 1
  · have HE1 : Hid ((if u.cnt = 1 then (1 : Int) else 2) = 1) := by show _ = _; rw [if_pos (by rw [HN.out, h1]; rfl)]
    subst h1
    have hbl := below_ok x u 1 w2 HTG.out
    have hrx2 := HsS.b HS2.out
    have hru2 := row_tv (HsS.a HS2.out)
    go_wp2_with (first | refine wpList_load_midW (by rfl) 104 _ rfl w.heap.size 1 rfl _ _ hru2 Tryz.underlying104 rfl infoRs ?_ | refine wpList_load_wanted (by rfl) 104 _ rfl (w.heap.size + 1) rfl 104 (verC x) _ hrx2 Tryz.underlying104 rfl infoRs ?_ | fail)
    refine hbl.mono ?_
    rintro e w3 ⟨rfl, hb3⟩
    clear hbl
    go_wp2
    go_ret
    exact ⟨by rw [HRes.out, HE1.out]; rfl, HB2.out.trans (hb3.mono HB2.out.size)⟩
  · have HE1 : Hid ((if u.cnt = 1 then (1 : Int) else 2) = 2) := by show _ = _; rw [if_neg (by rw [HN.out]; omega)]
    have h1' : ¬ (n : Int) = 1 := by omega
    have h1b := beqI h1'
    have hbl := below_ok x u 2 w2 HTG.out
    have hrx2 := HsS.b HS2.out
    have hru2 := row_tv (HsS.a HS2.out)
    go_wp2_with (first | refine wpList_load_midW (by rfl) 104 _ rfl w.heap.size 1 rfl _ _ hru2 Tryz.underlying104 rfl infoRs ?_ | refine wpList_load_wanted (by rfl) 104 _ rfl (w.heap.size + 1) rfl 104 (verC x) _ hrx2 Tryz.underlying104 rfl infoRs ?_ | fail)
    refine hbl.mono ?_
    rintro e w3 ⟨rfl, hb3⟩
    clear hbl
    go_wp2
    go_ret
    exact ⟨by rw [HRes.out, HE1.out]; rfl, HB2.out.trans (hb3.mono HB2.out.size)⟩
set_option maxRecDepth 20000 in
set_option maxHeartbeats 4000000 in
theorem has_tin (u x : Ver) (w : World) (hm : May u) (hs13 : u.tag.size ≤ 140737488355328) (hc0 : ¬ 0 ≤ cmpV x u) : Calls Tryz.prog 132 #[.agg (tmC ⟨#[126]⟩ u), verV x] w fun e w' => e = .returned (.bool ((decide (0 ≤ cmpV x u) && belowB x u (if u.cnt = 1 then 1 else 2)))) ∧ Below w.heap.size w w' := by
  have hs := HsS.start w ⟨#[126]⟩ u x
  obtain ⟨w1, hw1⟩ : ∃ y, y = (w.alloc (.cells (tmC ⟨#[126]⟩ u) 159)).alloc (.cells (verC x) 104) := ⟨_, rfl⟩
  have hw1' := hw1.symm
  rw [← hw1] at hs
  have HS1 : Hid (HsS w ⟨#[126]⟩ u x w1) := hs
  have hcm := refCompare_ok x u w1
  have hrx := hs.b
  have hru := row_tv hs.a
  obtain ⟨cz, hcz⟩ : ∃ c, c = cmpV x u := ⟨_, rfl⟩
  rw [← hcz] at hcm hc0
  rw [← hcz]
  clear hcz
  obtain ⟨R, hR⟩ : ∃ R, R = (decide (0 ≤ cz) && belowB x u (if u.cnt = 1 then 1 else 2)) := ⟨_, rfl⟩
  have HRes : Hid (R = false) := by show _ = _; rw [hR, decide_eq_false hc0]; rfl
  rw [← hR]
  clear hR
  have hcnt := hm.cnt
  obtain ⟨n, hn⟩ : ∃ n : Nat, u.cnt = (n : Int) := ⟨u.cnt.toNat, by omega⟩
  have hn1 : 1 ≤ n := by omega
  have hn4 : n ≤ 4 := by omega
  have HN : Hid (u.cnt = (n : Int)) := hn
  have HM : Hid (May u) := hm
  have HTG : Hid (u.tag.size ≤ 140737488355328) := hs13
  clear hcnt hn hm hs13
  clear hs hw1
  go_enter Tryz.func132, Tryz.ntmps132
  go_wp2_with (first | refine wpList_load_mid rfl 104 _ rfl w.heap.size 1 rfl _ _ hru Tryz.underlying104 rfl infoRs ?_ | refine wpList_load_row rfl 104 _ rfl (w.heap.size + 1) rfl 104 (verC x) (0, 0) _ hrx Tryz.underlying104 rfl infoRs ?_ | fail)
  refine hcm.mono ?_
  rintro e w2 ⟨rfl, hb2⟩
  have HS2 : Hid (HsS w ⟨#[126]⟩ u x w2) := HsS.next HS1.out hb2
  have cop : w2.cell? ⟨w.heap.size, 0, none⟩ = some (.string ⟨#[126]⟩) := ((HsS.a HS2.out).cell 0).trans rfl
  have HB2 : Hid (Below w.heap.size w w2) := HsS.old HS2.out
  clear hcm hb2 hrx hru hw1' HS1
  have ccn : w2.cell? ⟨w.heap.size, 5, none⟩ = some (.int .i64 (n : Int)) := ((HsS.a HS2.out).cell 5).trans (by show some (Value.int .i64 u.cnt) = _; rw [HN.out])
  by_cases h1 : n = 1
  · have HE1 : Hid ((if u.cnt = 1 then (1 : Int) else 2) = 1) := by show _ = _; rw [if_pos (by rw [HN.out, h1]; rfl)]
    subst h1
    go_wp2
    go_ret
    exact ⟨by rw [HRes.out]; rfl, HB2.out⟩
  · have HE1 : Hid ((if u.cnt = 1 then (1 : Int) else 2) = 2) := by show _ = _; rw [if_neg (by rw [HN.out]; omega)]
    have h1' : ¬ (n : Int) = 1 := by omega
    have h1b := beqI h1'
    go_wp2
    go_ret
    exact ⟨by rw [HRes.out]; rfl, HB2.out⟩
set_option maxRecDepth 20000 in
set_option maxHeartbeats 4000000 in
theorem has_cap (u x : Ver) (w : World) (hm : May u) (hs13 : u.tag.size ≤ 140737488355328) (hc0 : 0 ≤ cmpV x u) : Calls Tryz.prog 132 #[.agg (tmC ⟨#[94]⟩ u), verV x] w fun e w' => e = .returned (.bool ((decide (0 ≤ cmpV x u) && belowB x u (firstP u)))) ∧ Below w.heap.size w w' := by
  have hs := HsS.start w ⟨#[94]⟩ u x
  obtain ⟨w1, hw1⟩ : ∃ y, y = (w.alloc (.cells (tmC ⟨#[94]⟩ u) 159)).alloc (.cells (verC x) 104) := ⟨_, rfl⟩
  have hw1' := hw1.symm
  rw [← hw1] at hs
  have HS1 : Hid (HsS w ⟨#[94]⟩ u x w1) := hs
  have hcm := refCompare_ok x u w1
  have hrx := hs.b
  have hru := row_tv hs.a
  obtain ⟨cz, hcz⟩ : ∃ c, c = cmpV x u := ⟨_, rfl⟩
  rw [← hcz] at hcm hc0
  rw [← hcz]
  clear hcz
  obtain ⟨R, hR⟩ : ∃ R, R = (decide (0 ≤ cz) && belowB x u (firstP u)) := ⟨_, rfl⟩
  have HRes : Hid (R = belowB x u (firstP u)) := by show _ = _; rw [hR, decide_eq_true hc0]; rfl
  rw [← hR]
  clear hR
  have hcnt := hm.cnt
  obtain ⟨n, hn⟩ : ∃ n : Nat, u.cnt = (n : Int) := ⟨u.cnt.toNat, by omega⟩
  have hn1 : 1 ≤ n := by omega
  have hn4 : n ≤ 4 := by omega
  have HN : Hid (u.cnt = (n : Int)) := hn
  have HM : Hid (May u) := hm
  have HTG : Hid (u.tag.size ≤ 140737488355328) := hs13
  clear hcnt hn hm hs13
  clear hs hw1
  go_enter Tryz.func132, Tryz.ntmps132
  go_wp2_with (first | refine wpList_load_mid rfl 104 _ rfl w.heap.size 1 rfl _ _ hru Tryz.underlying104 rfl infoRs ?_ | refine wpList_load_row rfl 104 _ rfl (w.heap.size + 1) rfl 104 (verC x) (0, 0) _ hrx Tryz.underlying104 rfl infoRs ?_ | fail)
  refine hcm.mono ?_
  rintro e w2 ⟨rfl, hb2⟩
  have HS2 : Hid (HsS w ⟨#[94]⟩ u x w2) := HsS.next HS1.out hb2
  have cop : w2.cell? ⟨w.heap.size, 0, none⟩ = some (.string ⟨#[94]⟩) := ((HsS.a HS2.out).cell 0).trans rfl
  have HB2 : Hid (Below w.heap.size w w2) := HsS.old HS2.out
  clear hcm hb2 hrx hru hw1' HS1
  have ccn : w2.cell? ⟨w.heap.size, 5, none⟩ = some (.int .i64 (n : Int)) := ((HsS.a HS2.out).cell 5).trans (by show some (Value.int .i64 u.cnt) = _; rw [HN.out])
  have hcn1 : IntKind.i64.wrap ((n : Int) - 1) = ((n - 1 : Nat) : Int) := by rw [IntKind.wrap_i64]; omega
  have HI0 : Hid (FpI u n n n) := Or.inl ⟨fun j h1 h2 => absurd h1 (by omega), rfl⟩
  go_wp2
  go_loop [7, 8] (fun mv iv => ∃ m : Int, mv = .int .i64 m ∧ 0 ≤ m ∧ m ≤ 4 ∧ ((∃ i : Nat, iv = .int .i64 i ∧ i < n ∧ Hid (FpI u n (i + 1) m)) ∨ (iv = .int .i64 (-1) ∧ Hid (FpI u n 0 m)))) (fun _ iv => (intOf iv + 1).toNat)
  case atStart => exact ⟨n, rfl, by omega, by omega, Or.inl ⟨n - 1, rfl, by omega, by rw [show n - 1 + 1 = n by omega]; exact HI0⟩⟩
  case round =>
    obtain ⟨m, rfl, hm0, hm4, ⟨i, rfl, hin, HF⟩ | ⟨rfl, HF⟩⟩ := hrel
    · have hi4 : (i : Int) < 4 := by omega
      have cni : w2.cell? ⟨w.heap.size, 1 + i, none⟩ = some (.int .i64 (nAt u i)) := by
        rw [(HsS.a HS2.out).cell (1 + i)]
        have h4 : i < 4 := by omega
        match i, h4 with
        | 0, _ => rfl
        | 1, _ => rfl
        | 2, _ => rfl
        | 3, _ => rfl
      obtain ⟨q, hq⟩ : ∃ q, q = nAt u i := ⟨_, rfl⟩
      rw [← hq] at cni
      have hwd : IntKind.i64.wrap ((i : Int) - 1) = (i : Int) - 1 := by rw [IntKind.wrap_i64]; omega
      have HNext : Hid (∀ m' : Int, 0 ≤ m' → m' ≤ 4 → FpI u n i m' → ∃ m : Int, Value.int .i64 m' = .int .i64 m ∧ 0 ≤ m ∧ m ≤ 4 ∧ ((∃ j : Nat, Value.int .i64 ((i : Int) - 1) = .int .i64 j ∧ j < n ∧ Hid (FpI u n (j + 1) m)) ∨ (Value.int .i64 ((i : Int) - 1) = .int .i64 (-1) ∧ Hid (FpI u n 0 m)))) := fun m' g0 g4 hf => by
        refine ⟨m', rfl, g0, g4, ?_⟩
        cases i with
        | zero => exact Or.inr ⟨rfl, hf⟩
        | succ k => exact Or.inl ⟨k, by congr 1; omega, by omega, hf⟩
      by_cases hq0 : q = 0
      · have HN2 := HNext.out m hm0 hm4 (HF.out.zero (by rw [← hq]; exact hq0))
        have HN3 : Hid _ := HN2
        clear hq HN2 HNext
        go_wp2
        go_round
        case rel => exact HN3.out
        case measure => first | (simp [intOf]; done) | (simp [intOf]; omega)
      · have hqb := beqI hq0
        have HN2 := HNext.out ((i : Int) + 1) (by omega) (by omega) (FpI.some hin (by rw [← hq]; exact hq0))
        have HN3 : Hid _ := HN2
        have hwi : IntKind.i64.wrap ((i : Int) + 1) = (i : Int) + 1 := by rw [IntKind.wrap_i64]; omega
        clear hq HN2 HNext
        go_wp2
        go_round
        case rel => exact HN3.out
        case measure => first | (simp [intOf]; done) | (simp [intOf]; omega)
    · have HEq : Hid (firstP u = m) := (HF.out.done HM.out HN.out).symm
      have hbl := below_ok x u m w2 HTG.out
      have hrx2 := HsS.b HS2.out
      have hru2 := row_tv (HsS.a HS2.out)
      go_wp2_with (first | refine wpList_load_midW (by rfl) 104 _ rfl w.heap.size 1 rfl _ _ hru2 Tryz.underlying104 rfl infoRs ?_ | refine wpList_load_wanted (by rfl) 104 _ rfl (w.heap.size + 1) rfl 104 (verC x) _ hrx2 Tryz.underlying104 rfl infoRs ?_ | fail)
      refine hbl.mono ?_
      rintro e w3 ⟨rfl, hb3⟩
      clear hbl
      go_wp2
      go_ret
      exact ⟨by rw [HRes.out, HEq.out]; rfl, HB2.out.trans (hb3.mono HB2.out.size)⟩
set_option maxRecDepth 20000 in
set_option maxHeartbeats 4000000 in
theorem has_can (u x : Ver) (w : World) (hm : May u) (hs13 : u.tag.size ≤ 140737488355328) (hc0 : ¬ 0 ≤ cmpV x u) : Calls Tryz.prog 132 #[.agg (tmC ⟨#[94]⟩ u), verV x] w fun e w' => e = .returned (.bool ((decide (0 ≤ cmpV x u) && belowB x u (firstP u)))) ∧ Below w.heap.size w w' := by
  have hs := HsS.start w ⟨#[94]⟩ u x
  obtain ⟨w1, hw1⟩ : ∃ y, y = (w.alloc (.cells (tmC ⟨#[94]⟩ u) 159)).alloc (.cells (verC x) 104) := ⟨_, rfl⟩
  have hw1' := hw1.symm
  rw [← hw1] at hs
  have HS1 : Hid (HsS w ⟨#[94]⟩ u x w1) := hs
  have hcm := refCompare_ok x u w1
  have hrx := hs.b
  have hru := row_tv hs.a
  obtain ⟨cz, hcz⟩ : ∃ c, c = cmpV x u := ⟨_, rfl⟩
  rw [← hcz] at hcm hc0
  rw [← hcz]
  clear hcz
  obtain ⟨R, hR⟩ : ∃ R, R = (decide (0 ≤ cz) && belowB x u (firstP u)) := ⟨_, rfl⟩
  have HRes : Hid (R = false) := by show _ = _; rw [hR, decide_eq_false hc0]; rfl
  rw [← hR]
  clear hR
  have hcnt := hm.cnt
  obtain ⟨n, hn⟩ : ∃ n : Nat, u.cnt = (n : Int) := ⟨u.cnt.toNat, by omega⟩
  have hn1 : 1 ≤ n := by omega
  have hn4 : n ≤ 4 := by omega
  have HN : Hid (u.cnt = (n : Int)) := hn
  have HM : Hid (May u) := hm
  have HTG : Hid (u.tag.size ≤ 140737488355328) := hs13
  clear hcnt hn hm hs13
  clear hs hw1
  go_enter Tryz.func132, Tryz.ntmps132
  go_wp2_with (first | refine wpList_load_mid rfl 104 _ rfl w.heap.size 1 rfl _ _ hru Tryz.underlying104 rfl infoRs ?_ | refine wpList_load_row rfl 104 _ rfl (w.heap.size + 1) rfl 104 (verC x) (0, 0) _ hrx Tryz.underlying104 rfl infoRs ?_ | fail)
  refine hcm.mono ?_
  rintro e w2 ⟨rfl, hb2⟩
  have HS2 : Hid (HsS w ⟨#[94]⟩ u x w2) := HsS.next HS1.out hb2
  have cop : w2.cell? ⟨w.heap.size, 0, none⟩ = some (.string ⟨#[94]⟩) := ((HsS.a HS2.out).cell 0).trans rfl
  have HB2 : Hid (Below w.heap.size w w2) := HsS.old HS2.out
  clear hcm hb2 hrx hru hw1' HS1
  have ccn : w2.cell? ⟨w.heap.size, 5, none⟩ = some (.int .i64 (n : Int)) := ((HsS.a HS2.out).cell 5).trans (by show some (Value.int .i64 u.cnt) = _; rw [HN.out])
  have hcn1 : IntKind.i64.wrap ((n : Int) - 1) = ((n - 1 : Nat) : Int) := by rw [IntKind.wrap_i64]; omega
  have HI0 : Hid (FpI u n n n) := Or.inl ⟨fun j h1 h2 => absurd h1 (by omega), rfl⟩
  go_wp2
  go_loop [7, 8] (fun mv iv => ∃ m : Int, mv = .int .i64 m ∧ 0 ≤ m ∧ m ≤ 4 ∧ ((∃ i : Nat, iv = .int .i64 i ∧ i < n ∧ Hid (FpI u n (i + 1) m)) ∨ (iv = .int .i64 (-1) ∧ Hid (FpI u n 0 m)))) (fun _ iv => (intOf iv + 1).toNat)
  case atStart => exact ⟨n, rfl, by omega, by omega, Or.inl ⟨n - 1, rfl, by omega, by rw [show n - 1 + 1 = n by omega]; exact HI0⟩⟩
  case round =>
    obtain ⟨m, rfl, hm0, hm4, ⟨i, rfl, hin, HF⟩ | ⟨rfl, HF⟩⟩ := hrel
    · have hi4 : (i : Int) < 4 := by omega
      have cni : w2.cell? ⟨w.heap.size, 1 + i, none⟩ = some (.int .i64 (nAt u i)) := by
        rw [(HsS.a HS2.out).cell (1 + i)]
        have h4 : i < 4 := by omega
        match i, h4 with
        | 0, _ => rfl
        | 1, _ => rfl
        | 2, _ => rfl
        | 3, _ => rfl
      obtain ⟨q, hq⟩ : ∃ q, q = nAt u i := ⟨_, rfl⟩
      rw [← hq] at cni
      have hwd : IntKind.i64.wrap ((i : Int) - 1) = (i : Int) - 1 := by rw [IntKind.wrap_i64]; omega
      have HNext : Hid (∀ m' : Int, 0 ≤ m' → m' ≤ 4 → FpI u n i m' → ∃ m : Int, Value.int .i64 m' = .int .i64 m ∧ 0 ≤ m ∧ m ≤ 4 ∧ ((∃ j : Nat, Value.int .i64 ((i : Int) - 1) = .int .i64 j ∧ j < n ∧ Hid (FpI u n (j + 1) m)) ∨ (Value.int .i64 ((i : Int) - 1) = .int .i64 (-1) ∧ Hid (FpI u n 0 m)))) := fun m' g0 g4 hf => by
        refine ⟨m', rfl, g0, g4, ?_⟩
        cases i with
        | zero => exact Or.inr ⟨rfl, hf⟩
        | succ k => exact Or.inl ⟨k, by congr 1; omega, by omega, hf⟩
      by_cases hq0 : q = 0
      · have HN2 := HNext.out m hm0 hm4 (HF.out.zero (by rw [← hq]; exact hq0))
        have HN3 : Hid _ := HN2
        clear hq HN2 HNext
        go_wp2
        go_round
        case rel => exact HN3.out
        case measure => first | (simp [intOf]; done) | (simp [intOf]; omega)
      · have hqb := beqI hq0
        have HN2 := HNext.out ((i : Int) + 1) (by omega) (by omega) (FpI.some hin (by rw [← hq]; exact hq0))
        have HN3 : Hid _ := HN2
        have hwi : IntKind.i64.wrap ((i : Int) + 1) = (i : Int) + 1 := by rw [IntKind.wrap_i64]; omega
        clear hq HN2 HNext
        go_wp2
        go_round
        case rel => exact HN3.out
        case measure => first | (simp [intOf]; done) | (simp [intOf]; omega)
    · have HEq : Hid (firstP u = m) := (HF.out.done HM.out HN.out).symm
      go_wp2
      go_ret
      exact ⟨by rw [HRes.out]; rfl, HB2.out⟩
/-- What the document's has tells. -/
theorem refHas_ok {op : ByteArray} {u : Ver} (hop : vb op = [42] ∨ (vb op ∈ signsR ∧ May u)) (hs : u.tag.size ≤ 140737488355328) (x : Ver) (w : World) : Calls Tryz.prog 132 #[.agg (tmC op u), verV x] w fun e w' => e = .returned (.bool (hasO (vb op) u x)) ∧ Below w.heap.size w w' := by
  rcases hop with h | ⟨h, hm⟩
  · obtain rfl : op = ⟨#[42]⟩ := vb_inj h
    exact has_st u x w
  · unfold signsR at h
    simp only [List.mem_cons, List.not_mem_nil, or_false] at h
    rcases h with h | h | h | h | h | h | h
    · obtain rfl : op = ⟨#[62, 61]⟩ := vb_inj h
      exact has_ge u x w
    · obtain rfl : op = ⟨#[60, 61]⟩ := vb_inj h
      exact has_le u x w
    · obtain rfl : op = ⟨#[62]⟩ := vb_inj h
      exact has_gt u x w
    · obtain rfl : op = ⟨#[60]⟩ := vb_inj h
      exact has_lt u x w
    · obtain rfl : op = ⟨#[61]⟩ := vb_inj h
      exact has_eq u x w
    · obtain rfl : op = ⟨#[94]⟩ := vb_inj h
      by_cases hc : 0 ≤ cmpV x u
      · exact has_cap u x w hm hs hc
      · exact has_can u x w hm hs hc
    · obtain rfl : op = ⟨#[126]⟩ := vb_inj h
      by_cases hc : 0 ≤ cmpV x u
      · exact has_tip u x w hm hs hc
      · exact has_tin u x w hm hs hc
end Go.Proofs.YtkbhckjpmgkgjaaGreatDoor
namespace Go.Proofs.YtkbhckjpmgkgjaaGreatDoor
open Go.RowKit

theorem mapO_step {α β : Type} {f : α → Option β} {L : List α} {k : Nat} {D : List β} (h : mapO f L = (mapO f (L.drop k)).map (D ++ ·)) (hk : k < L.length) {a : β} (ha : f L[k] = some a) : mapO f L = (mapO f (L.drop (k + 1))).map ((D ++ [a]) ++ ·) := by
  rw [h, List.drop_eq_getElem_cons hk, mapO_cons ha]
  cases mapO f (L.drop (k + 1)) <;> simp
theorem mapO_stop {α β : Type} {f : α → Option β} {L : List α} {k : Nat} {D : List β} (h : mapO f L = (mapO f (L.drop k)).map (D ++ ·)) (hk : k < L.length) (ha : f L[k] = none) : mapO f L = none := by
  rw [h, List.drop_eq_getElem_cons hk, mapO_none ha]
  rfl
theorem mapO_end {α β : Type} {f : α → Option β} {L : List α} {k : Nat} {D : List β} (h : mapO f L = (mapO f (L.drop k)).map (D ++ ·)) (hk : L.length ≤ k) : mapO f L = some D := by
  rw [h, List.drop_of_length_le hk]
  simp [mapO]
theorem mapO_begin {α β : Type} (f : α → Option β) (L : List α) : mapO f L = (mapO f (L.drop 0)).map (([] : List β) ++ ·) := by
  rw [List.drop_zero]
  cases mapO f L <;> simp
/-- A term as it lies in memory. -/
abbrev encM (t : Tm) : List Value := encT (tx t.1) t.2
def flatT (L : List Tm) : List Value := (L.map encM).flatten
theorem flatT_len (L : List Tm) : (flatT L).length = L.length * 7 := by
  induction L with
  | nil => rfl
  | cons v L ih =>
    have h7 : (encM v).length = 7 := rfl
    show (encM v ++ flatT L).length = (L.length + 1) * 7
    rw [List.length_append, ih, h7]
    omega
theorem flatT_snoc (L : List Tm) (t : Tm) : flatT (L ++ [t]) = flatT L ++ encM t := by
  unfold flatT
  rw [List.map_append, List.flatten_append]
  simp
theorem flatT_at : ∀ (L : List Tm) (i : Nat) (hi : i < L.length) (j : Nat), j < 7 → (flatT L)[i * 7 + j]? = (encM L[i])[j]? := by
  intro L
  induction L with
  | nil => exact fun i hi => absurd hi (by simp)
  | cons c r ih =>
    intro i hi j hj
    have h7 : (encM c).length = 7 := rfl
    show (encM c ++ flatT r)[i * 7 + j]? = _
    cases i with
    | zero => rw [Nat.zero_mul, Nat.zero_add, List.getElem?_append_left (by rw [h7]; exact hj)]; rfl
    | succ i =>
      rw [List.getElem?_append_right (by rw [h7]; omega), h7, show (i + 1) * 7 + j - 7 = i * 7 + j by omega]
      exact ih i (by simpa using hi) j hj
/-- An alternative in memory: terms one behind another. -/
structure AlAt (w : World) (v : Value) (a : List Tm) : Prop where
  ex : ∃ g cap, v = .slice (some ⟨g, 0, none⟩) a.length cap ∧ g < w.heap.size ∧ (∃ C, w.heap[g]? = some (.cells C 159 (0, 0))) ∧ ∀ i (h : i < a.length), w.rangeAt g (i * 7) (encM a[i])
theorem AlAt.keep {w w' : World} {v : Value} {a : List Tm} {B : Nat} (h : AlAt w v a) (hB : w.heap.size ≤ B) (hb : Below B w w') : AlAt w' v a := by
  obtain ⟨g, cap, h1, h2, ⟨C, h3⟩, h4⟩ := h.ex
  exact ⟨g, cap, h1, Nat.lt_of_lt_of_le h2 hb.size, ⟨C, (hb.block g (by omega)).trans h3⟩, fun i hi j u hj => (hb.cell (p := ⟨g, i * 7 + j, none⟩) (by show g < B; omega)).trans (h4 i hi j u hj)⟩
theorem AlAt.grown {w w' : World} {v : Value} {a : List Tm} {row : Option Nat} (h : AlAt w v a) (hg : w.grownBy w' row) (hr : ∀ k, row = some k → ∃ C, w.heap[k]? = some (.cells C 157 (0, 0))) : AlAt w' v a := by
  obtain ⟨g, cap, h1, h2, ⟨C, h3⟩, h4⟩ := h.ex
  have hne : some g ≠ row := fun e => by
    obtain ⟨D, hD⟩ := hr g e.symm
    rw [h3] at hD
    simp at hD
  refine ⟨g, cap, h1, Nat.lt_of_lt_of_le h2 hg.size, ⟨C, (hg.block g h2 hne).trans h3⟩, fun i hi j u hj => hg.cell (a := ⟨g, i * 7 + j, none⟩) (h4 i hi j u hj) hne⟩
theorem al_own {w : World} {B : Nat} {v : Value} {a : List Tm} (h : w.ownsRow B 159 7 v a.length (flatT a)) (h0 : 0 < a.length) : AlAt w v a := by
  have h' := h
  have hrow := ownsRow_row h
  obtain ⟨hl, ⟨rfl, h0'⟩ | ⟨g, cap, cur, rfl, _, hr, _⟩⟩ := h
  · omega
  · refine ⟨g, cap, rfl, (Array.getElem?_eq_some_iff.1 hr).1, hrow g rfl, fun i hi j u hj => ?_⟩
    have hj7 : j < 7 := (List.getElem?_eq_some_iff.1 hj).1
    rw [h'.cellAt (i * 7 + j) (by omega), flatT_at a i hi j hj7]
    exact hj
/-- A range in memory. -/
structure RgAt (w : World) (v : Value) (P : List (List Tm)) : Prop where
  ex : ∃ g cap, v = .slice (some ⟨g, 0, none⟩) P.length cap ∧ g < w.heap.size ∧ ∀ i (h : i < P.length), ∃ av, w.cell? ⟨g, i, none⟩ = some av ∧ AlAt w av P[i]
theorem RgAt.keep {w w' : World} {v : Value} {P : List (List Tm)} {B : Nat} (h : RgAt w v P) (hB : w.heap.size ≤ B) (hb : Below B w w') : RgAt w' v P := by
  obtain ⟨g, cap, h1, h2, h3⟩ := h.ex
  refine ⟨g, cap, h1, Nat.lt_of_lt_of_le h2 hb.size, fun i hi => ?_⟩
  obtain ⟨av, k1, k2⟩ := h3 i hi
  exact ⟨av, (hb.cell (p := ⟨g, i, none⟩) (by show g < B; omega)).trans k1, k2.keep hB hb⟩
/-- What holds while the alternatives are gone through. -/
structure PoR (w wr : World) (B : Nat) (Q : List ByteArray) (k : Nat) (ov : Value) (P : List (List Tm)) : Prop where
  ow : ∃ vs : List Value, vs.length = P.length ∧ wr.ownsRow B 157 1 ov P.length vs ∧ ∀ i (h : i < P.length) (h' : i < vs.length), AlAt wr vs[i] P[i]
  eq : mapO altR (Q.map vb) = (mapO altR ((Q.map vb).drop k)).map (P ++ ·)
  len : P.length = k
  bs : B ≤ wr.heap.size
  old : Below w.heap.size w wr
theorem PoR.next {w wr w' : World} {B : Nat} {Q : List ByteArray} {k : Nat} {ov : Value} {P : List (List Tm)} (h : PoR w wr B Q k ov P) (hb : Below wr.heap.size wr w') : PoR w w' B Q k ov P := by
  obtain ⟨vs, h1, h2, h3⟩ := h.ow
  exact ⟨⟨vs, h1, own_below h2 hb, fun i hi hi' => (h3 i hi hi').keep (Nat.le_refl _) hb⟩, h.eq, h.len, Nat.le_trans h.bs hb.size, h.old.trans (hb.mono h.old.size)⟩
theorem one_tm (op : ByteArray) (v : Ver) (w : World) : (Instr.buildSlice 157 1 #[(0, .agg (tmC op v))]).run Tryz.prog w = .ok (.slice (some ⟨w.heap.size, 0, none⟩) 1 1) (w.alloc (.cells (tmC op v) 159)) := by
  obtain ⟨i0, hi, hz0, hz1, _⟩ := info_parts infoTz
  refine run_buildSlice w 157 159 1 _ _ i0 _ Tryz.underlying157 hi hz0 (by rw [hz1]; decide) (by rw [hz1]; decide) ?_
  rw [hz1]
  kernel_rfl
theorem infoA : (Tryz.prog.info? 157).map (fun i => (i.zero, i.size, i.bytes)) = some (some (.slice none 0 0), 1, 24) := by kernel_rfl
/-- A term is appended. -/
theorem wpList_ap_tm {w w1 : World} {ops : Array Oper} {rest : List Oper} {o : Oper} {a : Act} {Q : Exit → Act → World → Prop} (hgd : o.guard = none) (dd : Option Tmp) (hdd : o.dst = dd) (s x : Operand) (ho : o.op = .call { callee := .builtin .append, args := #[s, x], argTypes := #[157, 157] }) (B : Nat) (v : Value) (L : List Tm) (hs : a.eval s = v) (op : ByteArray) (u : Ver) (hw : w1 = w.alloc (.cells (tmC op u) 159)) (g : Nat) (hg : g = w.heap.size) (hown : w1.ownsRow B 159 7 v L.length (flatT L)) (hx : a.eval x = .slice (some ⟨g, 0, none⟩) 1 1) (hB : B ≤ w.heap.size) (hby : (L.length + 1) * 72 ≤ 140737488355328)
    (h : ∀ v' w', w'.ownsRow B 159 7 v' (L ++ [(vb op, u)]).length (flatT (L ++ [(vb op, u)])) → w1.grownBy w' v.ownBlock → wpList Tryz.prog ops Q rest (a.put dd v') w') : wpList Tryz.prog ops Q (o :: rest) a w1 := by
  subst hw hg
  refine wpList_plain hgd fun K hK => wp_append_any dd hdd s x 157 159 (.agg (tmC ⟨#[]⟩ zeroVer)) 7 72 Tryz.underlying157 infoTz rfl (by decide) ho B v L.length (flatT L) hs hown (some ⟨w.heap.size, 0, none⟩) w.heap.size 0 1 1 (encM (vb op, u)) rfl hx (fun _ => rfl) (fun j y hj => ?_) (fun y hy => ?_) (fun h => nomatch h) (by unfold maxLen; omega) hby (by simp; omega) (fun v' w' h1 h2 _ => hK _ _ (h v' w' (by rw [List.length_append, flatT_snoc]; exact h1) h2))
  · rw [Nat.zero_add, (Row.new w (tmC op u) 159).cell j, ← hj]
    show ((encT op u).toArray)[j]? = (encT (tx (vb op)) u)[j]?
    rw [tx_vb, List.getElem?_toArray]
  · have hk : (tmC (tx (vb op)) u).all (·.oneCell') = true := tm_one _ _
    exact Array.all_eq_true'.1 hk y (by simpa using hy)
/-- An alternative is appended. -/
theorem wpList_ap_al {w w1 : World} {ops : Array Oper} {rest : List Oper} {o : Oper} {a : Act} {Q : Exit → Act → World → Prop} (hgd : o.guard = none) (dd : Option Tmp) (hdd : o.dst = dd) (s x : Operand) (ho : o.op = .call { callee := .builtin .append, args := #[s, x], argTypes := #[107, 107] }) (B : Nat) (v : Value) (n : Nat) (xs : List Value) (hs : a.eval s = v) (y : Value) (hy1 : y.oneCell' = true) (hw : w1 = w.alloc (.cells #[y] 157)) (g : Nat) (hg : g = w.heap.size) (hown : w1.ownsRow B 157 1 v n xs) (hx : a.eval x = .slice (some ⟨g, 0, none⟩) 1 1) (hB : B ≤ w.heap.size) (hby : (n + 1) * 24 ≤ 140737488355328)
    (h : ∀ v' w', w'.ownsRow B 157 1 v' (n + 1) (xs ++ [y]) → w1.grownBy w' v.ownBlock → wpList Tryz.prog ops Q rest (a.put dd v') w') : wpList Tryz.prog ops Q (o :: rest) a w1 := by
  subst hw hg
  refine wpList_plain hgd fun K hK => wp_append_any dd hdd s x 107 157 (.slice none 0 0) 1 24 Tryz.underlying107 infoA rfl (by decide) ho B v n xs hs hown (some ⟨w.heap.size, 0, none⟩) w.heap.size 0 1 1 [y] rfl hx (fun _ => rfl) (fun j u hj => ?_) (fun u hu => ?_) (fun h => nomatch h) (by unfold maxLen; omega) hby (by simp; omega) (fun v' w' h1 h2 _ => hK _ _ (h v' w' h1 h2))
  · cases j with
    | zero => simp at hj; subst hj; exact (Row.cell (Row.new w #[y] 157) 0).trans rfl
    | succ j => simp at hj
  · simp at hu; subst hu; exact hy1
/-- What Parse tells. -/
def PrPost (r : Option (List (List Tm))) (w : World) (e : Ending) (w' : World) : Prop := (r = none ∧ e = .returned (.tuple #[.slice none 0 0, .int .i64 21]) ∧ Below w.heap.size w w') ∨ ∃ P v, r = some P ∧ e = .returned (.tuple #[v, .int .i64 0]) ∧ RgAt w' v P ∧ Below w.heap.size w w'
theorem grown_below {w w5 : World} {v : Value} {B : Nat} (hg : w.grownBy w5 v.ownBlock) (hB : B ≤ w.heap.size) (hr : ∀ k, v.ownBlock = some k → B ≤ k) : Below B w w5 := below_own' hg hB hr
theorem alt_len {Q : List ByteArray} {x : ByteArray} (h : Q.map vb = cutAll 44 (vb x)) : 1 ≤ Q.length := by
  have := cutAll_pos 44 (vb x)
  rw [← h, List.length_map] at this
  exact this
set_option maxRecDepth 40000 in
set_option maxHeartbeats 16000000 in
theorem refRange_ok (s : ByteArray) (w : World) (hs : s.size ≤ 4194304) : Calls Tryz.prog 51 #[.string s] w (PrPost (parseR (vb s)) w) := by
  have hc1 := refCut_ok 124 s w hs
  obtain ⟨R, hR⟩ : ∃ R, R = parseR (vb s) := ⟨_, rfl⟩
  rw [← hR]
  have HRR : Hid (R = if 16 < (cutAll 124 (vb s)).length then none else mapO altR (cutAll 124 (vb s))) := hR
  have HSZ : Hid (s.size ≤ 4194304) := hs
  clear hR hs
  go_enter Tryz.func51, Tryz.ntmps51
  go_wp2_with fail
  refine hc1.mono ?_
  rintro e w1 ⟨gq, Q, cq, rfl, hQ, hcell, hgq0, hgq, hb1, hcq, hQl, hQs⟩
  have HQ : Hid (Q.map vb = cutAll 124 (vb s)) := hQ
  have HB1 : Hid (Below w.heap.size w w1) := hb1
  have HC1 : Hid (∀ wx, Below w1.heap.size w1 wx → ∀ i (h : i < Q.length), wx.cell? ⟨gq, i, none⟩ = some (.string Q[i])) := fun wx hx i h => (hx.cell (p := ⟨gq, i, none⟩) hgq).trans (hcell i h)
  have HQS : Hid (∀ i (h : i < Q.length), Q[i].size ≤ 4194304) := fun i h => Nat.le_trans (hQs i h) HSZ.out
  obtain ⟨n, hn⟩ : ∃ n, n = Q.length := ⟨_, rfl⟩
  have HN : Hid (n = Q.length) := hn
  have hnn : Q.length = n := hn.symm
  have hn1 : n ≤ 4194305 := by have := HSZ.out; omega
  have HL : Hid ((cutAll 124 (vb s)).length = n) := by show _ = _; rw [← hQ, List.length_map, hnn]
  rw [hnn]
  rw [hnn] at hcq
  clear hc1 hQ hcell hgq0 hgq hb1 hQl hQs hn hnn
  by_cases h16 : 16 < n
  · have HNo : Hid (R = none) := by show _ = _; rw [HRR.out, HL.out, if_pos h16]
    have h16' : (16 : Int) < (n : Int) := by omega
    go_wp2
    go_ret2
    exact Or.inl ⟨HNo.out, rfl, HB1.out⟩
  · have h16' : ¬ (16 : Int) < (n : Int) := by omega
    have HR2 : Hid (R = mapO altR (Q.map vb)) := by show _ = _; rw [HRR.out, HL.out, if_neg h16, HQ.out]
    have H0 : Hid (PoR w w1 w1.heap.size Q 0 (.slice none 0 0) []) := ⟨⟨[], rfl, World.ownsRow_nil _ _ _ _, fun i h => absurd h (by simp)⟩, mapO_begin altR _, rfl, Nat.le_refl _, HB1.out⟩
    go_wp2
    go_loopw [4, 6] (fun ov iv wr => ∃ (k : Nat) (P : List (List Tm)), k ≤ n ∧ iv = .int .i64 k ∧ PoR w wr w1.heap.size Q k ov P ∧ Below w1.heap.size w1 wr) (fun _ iv _ => n - (intOf iv).toNat)
    case atStart => exact ⟨0, [], Nat.zero_le _, rfl, H0.out, Below.refl _ _⟩
    case round =>
      obtain ⟨k, P, hk, rfl, hPo, hB1r⟩ := hrel
      have HPo : Hid (PoR w wr w1.heap.size Q k u4 P) := hPo
      have HB1r : Hid (Below w1.heap.size w1 wr) := hB1r
      clear hPo hB1r H0
      by_cases hkn : k < n
      · have hkn' : (k : Int) < (n : Int) := by omega
        have hkQ : k < Q.length := by have := HN.out; omega
        have hcell := HC1.out wr HB1r.out k hkQ
        obtain ⟨x, hx⟩ : ∃ x, x = Q[k] := ⟨_, rfl⟩
        rw [← hx] at hcell
        have hxs : x.size ≤ 4194304 := by rw [hx]; exact HQS.out k hkQ
        have HX : Hid ((Q.map vb)[k]? = some (vb x)) := by show _ = _; rw [List.getElem?_map, List.getElem?_eq_getElem hkQ, hx]; rfl
        have HXL : Hid (k < (Q.map vb).length ∧ ∀ h : k < (Q.map vb).length, (Q.map vb)[k] = vb x) := ⟨by rw [List.length_map]; exact hkQ, fun h => by rw [List.getElem_map, hx]⟩
        have hc2 := refCut_ok 44 x wr hxs
        clear hx
        go_wp2_with fail
        refine hc2.mono ?_
        rintro e w2 ⟨gm, M, cm, rfl, hM, hcm2, hgm0, hgm, hb2, hcm, hMl, hMs⟩
        have HM : Hid (M.map vb = cutAll 44 (vb x)) := hM
        have HB12 : Hid (Below w1.heap.size w1 w2) := HB1r.out.trans (hb2.mono HB1r.out.size)
        have HPo2 : Hid (PoR w w2 w1.heap.size Q k u4 P) := PoR.next HPo.out hb2
        have HC2 : Hid (∀ wx, Below w2.heap.size w2 wx → ∀ i (h : i < M.length), wx.cell? ⟨gm, i, none⟩ = some (.string M[i])) := fun wx hx i h => (hx.cell (p := ⟨gm, i, none⟩) hgm).trans (hcm2 i h)
        have HMS : Hid (∀ i (h : i < M.length), M[i].size ≤ 4194304) := fun i h => Nat.le_trans (hMs i h) hxs
        have HM1 : Hid (1 ≤ M.length) := alt_len hM
        obtain ⟨m, hm⟩ : ∃ m, m = M.length := ⟨_, rfl⟩
        have HMN : Hid (m = M.length) := hm
        have hmm : M.length = m := hm.symm
        have HML : Hid ((cutAll 44 (vb x)).length = m) := by show _ = _; rw [← hM, List.length_map, hmm]
        rw [hmm]
        rw [hmm] at hcm
        clear hc2 hM hcm2 hgm0 hgm hb2 hMl hMs hm hmm hcell
        by_cases g16 : 16 < m
        · have HNo : Hid (R = none) := by
            show _ = _
            rw [HR2.out]
            refine mapO_stop (PoR.eq HPo.out) HXL.out.1 ?_
            rw [HXL.out.2 _]
            unfold altR
            rw [HML.out, if_pos g16]
          have g16' : (16 : Int) < (m : Int) := by omega
          have HBe : Hid (Below w.heap.size w w2) := PoR.old HPo2.out
          go_wp2
          go_ret2
          exact Or.inl ⟨HNo.out, rfl, HBe.out⟩
        · have g16' : ¬ (16 : Int) < (m : Int) := by omega
          have HAl : Hid (altR (vb x) = mapO termR (M.map vb)) := by show _ = _; unfold altR; rw [HML.out, if_neg g16, HM.out]
          have HI0 : Hid (w2.ownsRow w2.heap.size 159 7 (.slice none 0 0) ([] : List Tm).length (flatT [])) := World.ownsRow_nil _ _ _ _
          go_wp2
          go_loopw [8, 9] (fun xv jv wi => ∃ (j : Nat) (ts : List Tm), j ≤ m ∧ jv = .int .i64 j ∧ ts.length = j ∧ wi.ownsRow w2.heap.size 159 7 xv ts.length (flatT ts) ∧ Below w2.heap.size w2 wi ∧ Hid (mapO termR (M.map vb) = (mapO termR ((M.map vb).drop j)).map (ts ++ ·))) (fun _ jv _ => m - (intOf jv).toNat)
          case atStart => exact ⟨0, [], Nat.zero_le _, rfl, rfl, HI0.out, Below.refl _ _, mapO_begin termR _⟩
          case round =>
            obtain ⟨j, ts, hj, rfl, htl, hown, hb2i, HEq⟩ := hrel
            have HOwn : Hid (wr.ownsRow w2.heap.size 159 7 u8 ts.length (flatT ts)) := hown
            have HB2i : Hid (Below w2.heap.size w2 wr) := hb2i
            have HTL : Hid (ts.length = j) := htl
            clear hown hb2i htl HI0 HPo HB1r
            by_cases hjm : j < m
            · have hjm' : (j : Int) < (m : Int) := by omega
              have hjM : j < M.length := by have := HMN.out; omega
              have hcell := HC2.out wr HB2i.out j hjM
              obtain ⟨y, hy⟩ : ∃ y, y = M[j] := ⟨_, rfl⟩
              rw [← hy] at hcell
              have hys : y.size ≤ 4194304 := by rw [hy]; exact HMS.out j hjM
              have HY : Hid (j < (M.map vb).length ∧ ∀ h : j < (M.map vb).length, (M.map vb)[j] = vb y) := ⟨by rw [List.length_map]; exact hjM, fun h => by rw [List.getElem_map, hy]⟩
              have htm := refTerm_ok y wr hys
              obtain ⟨tr, htr⟩ : ∃ r, r = termR (vb y) := ⟨_, rfl⟩
              rw [← htr] at htm
              have HTr : Hid (tr = termR (vb y)) := htr
              clear hy htr
              go_wp2_with fail
              refine htm.mono ?_
              rintro e w3 ⟨op, v, rfl, hv, hb3⟩
              have HV : Hid (∀ t, tr = some t → t = (vb op, v)) := hv
              have hr4 : Row (w3.alloc (.cells (tmC op v) 159)) w3.heap.size (tmC op v) 159 := Row.new _ _ _
              have hb4 : Below wr.heap.size wr (w3.alloc (.cells (tmC op v) 159)) := hb3.alloc hb3.size _
              obtain ⟨w4, hw4⟩ : ∃ z, z = w3.alloc (.cells (tmC op v) 159) := ⟨_, rfl⟩
              rw [← hw4] at hr4 hb4
              have hw4' := hw4.symm
              have HB4 : Hid (Below wr.heap.size wr w4) := hb4
              clear htm hv hb3 hw4 hb4 hcell
              cases htr : tr with
              | none =>
                have HNo : Hid (R = none) := by
                  show _ = _
                  rw [HR2.out]
                  refine mapO_stop (PoR.eq HPo2.out) HXL.out.1 ?_
                  rw [HXL.out.2 _, HAl.out]
                  refine mapO_stop HEq.out HY.out.1 ?_
                  rw [HY.out.2 _, ← HTr.out, htr]
                have HBe : Hid (Below w.heap.size w w4) := (PoR.old HPo2.out).trans ((HB2i.out.trans (HB4.out.mono HB2i.out.size)).mono (PoR.old HPo2.out).size)
                have hsome : tr.isSome = false := by rw [htr]; rfl
                clear htr
                simp only [Option.isSome_none]
                go_wp2_with (refine wpList_store_new rfl 159 _ _ rfl w3 (tmC ⟨#[]⟩ zeroVer) (tmC op v) 159 rfl w3.heap.size rfl rfl rfl infoT rfl (tm_one _ _) ?_; rw [hw4'])
                go_ret2
                exact Or.inl ⟨HNo.out, rfl, HBe.out⟩
              | some t =>
                have HT : Hid (t = (vb op, v)) := HV.out t htr
                have HTe : Hid (termR (vb y) = some (vb op, v)) := by show _ = _; rw [← HTr.out, htr, HT.out]
                have hone := one_tm op v w4
                have hown5 : (w4.alloc (.cells (tmC op v) 159)).ownsRow w2.heap.size 159 7 u8 ts.length (flatT ts) := own_below (own_below HOwn.out HB4.out) ((Below.refl _ _).alloc (Nat.le_refl _) _)
                have hlow : w2.heap.size ≤ w4.heap.size := Nat.le_trans HB2i.out.size HB4.out.size
                have htsl : (ts.length + 1) * 72 ≤ 140737488355328 := by have := HTL.out; omega
                clear htr
                simp only [Option.isSome_some]
                go_wp2_with (first | (refine wpList_store_new rfl 159 _ _ rfl w3 (tmC ⟨#[]⟩ zeroVer) (tmC op v) 159 rfl w3.heap.size rfl rfl rfl infoT rfl (tm_one _ _) ?_; rw [hw4']) | refine wpList_load_row rfl 159 _ rfl w3.heap.size rfl 159 (tmC op v) (0, 0) _ hr4 Tryz.underlying159 rfl infoT ?_ | (at_builtin; refine wpList_ap_tm rfl (some 50) rfl _ _ rfl w2.heap.size u8 ts rfl op v rfl w4.heap.size rfl hown5 rfl hlow htsl ?_; intro v6 w6 ho6 hg6))
                have hb6 : Below w2.heap.size (w4.alloc (.cells (tmC op v) 159)) w6 := below_own' hg6 (by simp; omega) fun k hk => (own_block hown5 k hk).1
                have HB6 : Hid (Below w2.heap.size w2 w6) := ((HB2i.out.trans (HB4.out.mono HB2i.out.size)).alloc hlow _).trans hb6
                have HO6 : Hid (w6.ownsRow w2.heap.size 159 7 v6 (ts ++ [(vb op, v)]).length (flatT (ts ++ [(vb op, v)]))) := ho6
                have HEq6 : Hid (mapO termR (M.map vb) = (mapO termR ((M.map vb).drop (j + 1))).map ((ts ++ [(vb op, v)]) ++ ·)) := mapO_step HEq.out HY.out.1 (by rw [HY.out.2 _, HTe.out])
                clear ho6 hg6 hb6 hown5 hone
                go_roundw
                case rel => exact ⟨j + 1, ts ++ [(vb op, v)], by omega, by go_num, by rw [List.length_append, HTL.out]; rfl, HO6.out, HB6.out, HEq6.out⟩
                case measure => simp [intOf]; omega
            · have hjm' : ¬ (j : Int) < (m : Int) := by omega
              have HA : Hid (altR (vb x) = some ts) := by
                show _ = _
                rw [HAl.out]
                exact mapO_end HEq.out (by rw [List.length_map]; have := HMN.out; omega)
              have hal : AlAt wr u8 ts := al_own HOwn.out (by have := HTL.out; have := HM1.out; have := HMN.out; omega)
              obtain ⟨ga, ca, rfl, hga, hgaC, hgac⟩ := hal.ex
              have HAL : Hid (AlAt wr (.slice (some ⟨ga, 0, none⟩) ts.length ca) ts) := hal
              have HPi : Hid (PoR w wr w1.heap.size Q k u4 P) := PoR.next HPo2.out HB2i.out
              have HB1i : Hid (Below w1.heap.size w1 wr) := HB12.out.trans (HB2i.out.mono HB12.out.size)
              obtain ⟨vs, hvs1, hvs2, hvs3⟩ := (PoR.ow HPi.out)
              have HV1 : Hid (vs.length = P.length) := hvs1
              have HV3 : Hid (∀ i (h : i < P.length) (h' : i < vs.length), AlAt wr vs[i] P[i]) := hvs3
              obtain ⟨tl, htl⟩ : ∃ tl, tl = ts.length := ⟨_, rfl⟩
              rw [← htl] at HAL
              rw [← htl]
              have hown5 : (wr.alloc (.cells #[.slice (some ⟨ga, 0, none⟩) tl ca] 157)).ownsRow w1.heap.size 157 1 u4 P.length vs := own_below hvs2 ((Below.refl _ _).alloc (Nat.le_refl _) _)
              have hlow : w1.heap.size ≤ wr.heap.size := PoR.bs HPi.out
              have hPl : (P.length + 1) * 24 ≤ 140737488355328 := by have := PoR.len HPi.out; omega
              have HO4 : Hid (wr.ownsRow w1.heap.size 157 1 u4 P.length vs) := hvs2
              clear hvs1 hvs2 hvs3 hal hga hgaC hgac htl
              go_wp2_with (at_builtin; refine wpList_ap_al rfl (some 54) rfl _ _ rfl w1.heap.size u4 P.length vs rfl (.slice (some ⟨ga, 0, none⟩) tl ca) rfl rfl wr.heap.size rfl hown5 rfl hlow hPl ?_; intro v6 w6 ho6 hg6)
              have hob := own_block hown5
              have hrw := ownsRow_row hown5
              have hba : Below wr.heap.size wr (wr.alloc (.cells #[.slice (some ⟨ga, 0, none⟩) tl ca] 157)) := (Below.refl _ _).alloc (Nat.le_refl _) _
              have hb6 : Below w1.heap.size wr w6 := (hba.mono hlow).trans (below_own' hg6 (by simp; omega) fun k hk => (hob k hk).1)
              have HPo6 : Hid (PoR w w6 w1.heap.size Q (k + 1) v6 (P ++ [ts])) := by
                refine ⟨⟨vs ++ [.slice (some ⟨ga, 0, none⟩) tl ca], by rw [List.length_append, List.length_append, HV1.out]; rfl, by rw [List.length_append]; exact ho6, fun i hi hi' => ?_⟩, mapO_step (PoR.eq HPi.out) HXL.out.1 (by rw [HXL.out.2 _, HA.out]), by rw [List.length_append, PoR.len HPi.out]; rfl, Nat.le_trans hlow hb6.size, (PoR.old HPi.out).trans (hb6.mono (Nat.le_trans HB1.out.size (Nat.le_refl _)))⟩
                by_cases hiP : i < P.length
                · rw [List.getElem_append_left hiP, List.getElem_append_left (by rw [HV1.out]; exact hiP)]
                  exact ((HV3.out i hiP (by rw [HV1.out]; exact hiP)).keep (Nat.le_refl _) hba).grown hg6 hrw
                · have hie : i = P.length := by rw [List.length_append] at hi; simp at hi; omega
                  subst hie
                  rw [List.getElem_append_right (Nat.le_refl _), List.getElem_append_right (by rw [HV1.out]; exact Nat.le_refl _)]
                  simp only [HV1.out, Nat.sub_self, List.getElem_cons_zero]
                  exact (HAL.out.keep (Nat.le_refl _) hba).grown hg6 hrw
              have HB1n : Hid (Below w1.heap.size w1 w6) := HB1i.out.trans hb6
              clear ho6 hg6 hb6 hown5 hob hrw hba
              go_roundw
              case rel => exact ⟨k + 1, P ++ [ts], by omega, by go_num, HPo6.out, HB1n.out⟩
              case measure => simp [intOf]; omega
      · have hkn' : ¬ (k : Int) < (n : Int) := by omega
        have HYes : Hid (R = some P) := by
          show _ = _
          rw [HR2.out]
          exact mapO_end (PoR.eq HPo.out) (by rw [List.length_map]; have := HN.out; omega)
        have HRg : Hid (RgAt wr u4 P) := by
          obtain ⟨vs, h1, h2, h3⟩ := (PoR.ow HPo.out)
          have hp := cutAll_pos 124 (vb s)
          have hPl := PoR.len HPo.out
          have h2' := h2
          obtain ⟨_, ⟨_, h0⟩ | ⟨g, cap, cur, rfl, k2, k3, _⟩⟩ := h2
          · have := HL.out; omega
          · refine ⟨g, cap, rfl, (Array.getElem?_eq_some_iff.1 k3).1, fun i hi => ⟨vs[i]'(by omega), ?_, h3 i hi (by omega)⟩⟩
            rw [h2'.cellAt i (by omega)]
            exact List.getElem?_eq_getElem (by omega)
        have HBe : Hid (Below w.heap.size w wr) := PoR.old HPo.out
        go_wp2
        go_ret2
        exact Or.inr ⟨P, u4, HYes.out, rfl, HRg.out, HBe.out⟩
end Go.Proofs.YtkbhckjpmgkgjaaGreatDoor
namespace Go.Proofs.YtkbhckjpmgkgjaaGreatDoor
open Go.RowKit

theorem refRange_code (s : ByteArray) (w : World) (hs : s.size ≤ 4194304) : Calls Tryz.prog 51 #[.string s] w fun e w' => ∃ v : Value, e = .returned (.tuple #[v, .int .i64 (if (rangeS (vb s)).isNone = true then 21 else 0)]) ∧ Below w.heap.size w w' := by
  refine (refRange_ok s w hs).mono ?_
  rintro e w' (⟨h1, rfl, h3⟩ | ⟨P, v, h1, rfl, _, h3⟩)
  · rcases range_pair (vb s) with ⟨_, g2⟩ | ⟨p, L, g1, _⟩
    · exact ⟨_, by rw [g2]; rfl, h3⟩
    · rw [h1] at g1; cases g1
  · rcases range_pair (vb s) with ⟨g1, _⟩ | ⟨p, L, _, g2, _⟩
    · rw [h1] at g1; cases g1
    · exact ⟨v, by rw [g2]; rfl, h3⟩
/-- Texts that the document's own parsers take. -/
def FitR (L : List Pak) : Prop := ∀ p ∈ L, p.nm.size ≤ 140737488355328 ∧ p.vr.size ≤ 140737488355328 ∧ ∀ n ∈ p.nd, n.nm.size ≤ 140737488355328 ∧ n.rg.size ≤ 4194304
def PkPost (R : Int) (w : World) (e : Ending) (w' : World) : Prop := ∃ z : Int, e = .returned (.tuple #[.int .i64 R, .int .i64 z]) ∧ Below w.heap.size w w'
theorem parseE_code (s : ByteArray) : ∃ (v : Ver) (z : Int), parseE s = .tuple #[verV v, .int .i64 z] ∧ z = if (parseV (vb s)).isNone = true then 20 else 0 := by
  cases h : parseV (vb s) with
  | none => exact ⟨zeroV, 20, parseE_no h, rfl⟩
  | some v => exact ⟨v, 0, parseE_yes h, rfl⟩
theorem packE_17 {E : List Rl} {p : Pak} (h : false = nameI (vb p.nm)) : packE E p = 17 := by
  have e : rightP p.nm p.vr E = 17 := by unfold rightP; rw [if_pos h.symm]
  unfold packE
  rw [e]
  rfl
theorem packE_20 {E : List Rl} {p : Pak} (h : true = nameI (vb p.nm)) (h1 : (parseV (vb p.vr)).isNone = true) : packE E p = 20 := by
  have e : rightP p.nm p.vr E = 20 := by unfold rightP; rw [← h, if_neg (by decide), if_pos h1]
  unfold packE
  rw [e]
  rfl
theorem packE_13 {E : List Rl} {p : Pak} (h : true = nameI (vb p.nm)) (h1 : ¬ (parseV (vb p.vr)).isNone = true) (h2 : (p.nm, p.vr) ∈ E) : packE E p = 13 := by
  have e : rightP p.nm p.vr E = 13 := by unfold rightP; rw [← h, if_neg (by decide), if_neg h1, if_pos h2]
  unfold packE
  rw [e]
  rfl
theorem packE_go {E : List Rl} {p : Pak} (h : true = nameI (vb p.nm)) (h1 : ¬ (parseV (vb p.vr)).isNone = true) (h2 : (p.nm, p.vr) ∉ E) : packE E p = needsE [] p.nd := by
  have e : rightP p.nm p.vr E = 0 := by unfold rightP; rw [← h, if_neg (by decide), if_neg h1, if_neg h2]
  unfold packE
  rw [e]
  rfl
theorem needsE_17 {A l r : List Ned} {n : Ned} (hd : l = n :: r) (h : false = nameI (vb n.nm)) : needsE A l = 17 := by
  have e : rightN n A = 17 := by unfold rightN; rw [if_pos h.symm]
  rw [hd, needsE, e]
  rfl
theorem needsE_21 {A l r : List Ned} {n : Ned} (hd : l = n :: r) (h : true = nameI (vb n.nm)) (h1 : (rangeS (vb n.rg)).isNone = true) : needsE A l = 21 := by
  have e : rightN n A = 21 := by unfold rightN; rw [← h, if_neg (by decide), if_pos h1]
  rw [hd, needsE, e]
  rfl
theorem needsE_13 {A l r : List Ned} {n : Ned} (hd : l = n :: r) (h : true = nameI (vb n.nm)) (h1 : ¬ (rangeS (vb n.rg)).isNone = true) (h2 : n.nm ∈ A.map Ned.nm) : needsE A l = 13 := by
  have e : rightN n A = 13 := by unfold rightN; rw [← h, if_neg (by decide), if_neg h1, if_pos h2]
  rw [hd, needsE, e]
  rfl
theorem needsE_go {A l r : List Ned} {n : Ned} (hd : l = n :: r) (h : true = nameI (vb n.nm)) (h1 : ¬ (rangeS (vb n.rg)).isNone = true) (h2 : n.nm ∉ A.map Ned.nm) : needsE A l = needsE (A ++ [n]) r := by
  have e : rightN n A = 0 := by unfold rightN; rw [← h, if_neg (by decide), if_neg h1, if_neg h2]
  rw [hd, needsE, e]
  rfl
set_option maxRecDepth 40000 in
set_option maxHeartbeats 16000000 in
theorem refPack_ok {L : List Pak} {pa : Option Addr} {pc : Nat} (k : Nat) (w : World) (hL : PacksIn w (.slice pa L.length pc) L) (hF : FitR L) (hl : L.length ≤ 140737488355328) (hnd : ∀ p ∈ L, p.nd.length ≤ 140737488355328) (hk : k < L.length) : Calls Tryz.prog 28 #[.slice pa L.length pc, .int .i64 k] w (PkPost (packE ((L.take k).map Pak.key) L[k]) w) := by
  obtain ⟨a1, g, off, c1, he, h2, h3, h4, h5⟩ := hL.ex
  simp only [Value.slice.injEq, true_and] at he
  obtain ⟨rfl, rfl⟩ := he
  obtain ⟨rfl, hg⟩ := h3 (by omega)
  have HA5 : Hid (∀ i (h : i < L.length), ∃ na nc, (∀ wx, Below w.heap.size w wx → wx.rangeAt g (off + i * 3) (encP L[i] (.slice na L[i].nd.length nc))) ∧ ∀ wx, Below w.heap.size w wx → NeedsIn wx (.slice na L[i].nd.length nc) L[i].nd) := fun i hi => by
    obtain ⟨nv, k1, k2⟩ := h5 i hi
    have k2' := k2
    obtain ⟨na, _, _, nc, rfl, _⟩ := k2.ex
    exact ⟨na, nc, fun wx hx j u hj => (hx.cell (p := ⟨g, off + i * 3 + j, none⟩) hg).trans (k1 j u hj), fun wx hx => k2'.keep (Nat.le_refl _) hx⟩
  obtain ⟨na, nc, hrg0, hno0⟩ := HA5.out k hk
  obtain ⟨p, hp⟩ : ∃ p, p = L[k] := ⟨_, rfl⟩
  rw [← hp] at hrg0 hno0
  rw [← hp]
  obtain ⟨hf1, hf2, hf3⟩ := hF p (by rw [hp]; exact List.getElem_mem _)
  have HF3 : Hid (∀ n ∈ p.nd, n.nm.size ≤ 140737488355328 ∧ n.rg.size ≤ 4194304) := hf3
  obtain ⟨E, hE⟩ : ∃ E, E = (L.take k).map Pak.key := ⟨_, rfl⟩
  have HE : Hid (E = (L.take k).map Pak.key) := hE
  rw [← hE]
  obtain ⟨R, hR⟩ : ∃ R, R = packE E p := ⟨_, rfl⟩
  have HR : Hid (R = packE E p) := hR
  rw [← hR]
  obtain ⟨n, hn⟩ : ∃ n, n = L.length := ⟨_, rfl⟩
  have HN : Hid (n = L.length) := hn
  rw [← hn]
  have hkn : k < n := by omega
  have hn9 : n ≤ 140737488355328 := by omega
  have hkn' : (k : Int) < (n : Int) := by omega
  obtain ⟨nl, hnl⟩ : ∃ nl, nl = p.nd.length := ⟨_, rfl⟩
  rw [← hnl] at hrg0 hno0
  have HNl : Hid (nl = p.nd.length) := hnl
  have hnl9 : nl ≤ 140737488355328 := by rw [hnl, hp]; exact hnd _ (List.getElem_mem _)
  have HNo : Hid (∀ wx, Below w.heap.size w wx → NeedsIn wx (.slice na nl nc) p.nd) := hno0
  have hrg := hrg0 w (Below.refl _ _)
  have hb3 : Below w.heap.size w (w.alloc (.cells #[.string p.nm, .string p.vr, .slice na nl nc] 44)) := (Below.refl _ _).alloc (Nat.le_refl _) _
  have hr3 : Row (w.alloc (.cells #[.string p.nm, .string p.vr, .slice na nl nc] 44)) w.heap.size #[.string p.nm, .string p.vr, .slice na nl nc] 44 := Row.new _ _ _
  obtain ⟨w3, hw3⟩ : ∃ x, x = w.alloc (.cells #[.string p.nm, .string p.vr, .slice na nl nc] 44) := ⟨_, rfl⟩
  rw [← hw3] at hb3 hr3
  have hw3' := hw3.symm
  obtain ⟨k5, hk5⟩ : ∃ k, k = w.heap.size := ⟨_, rfl⟩
  have hk5' := hk5.symm
  rw [← hk5] at hr3
  have HB3 : Hid (Below w.heap.size w w3) := hb3
  have HR3 : Hid (Row w3 k5 #[.string p.nm, .string p.vr, .slice na nl nc] 44) := hr3
  have d0 : w3.cell? ⟨k5, 0, none⟩ = some (.string p.nm) := (hr3.cell 0).trans rfl
  have d1 : w3.cell? ⟨k5, 1, none⟩ = some (.string p.vr) := (hr3.cell 1).trans rfl
  have hnm := refName_ok p.nm hf1 w3
  obtain ⟨b, hb⟩ : ∃ b, b = nameI (vb p.nm) := ⟨_, rfl⟩
  rw [← hb] at hnm
  have HBn : Hid (b = nameI (vb p.nm)) := hb
  obtain ⟨v1, z1, hpe, hz1⟩ := parseE_code p.vr
  have HPs : Hid (∀ wx, Calls Tryz.prog 50 #[.string p.vr] wx fun e w' => e = .returned (.tuple #[verV v1, .int .i64 z1]) ∧ Below wx.heap.size wx w') := fun wx => by rw [← hpe]; exact refParse_ok p.vr wx hf2
  have HZ1 : Hid (z1 = if (parseV (vb p.vr)).isNone = true then 20 else 0) := hz1
  have hzc : z1 = 0 ∨ z1 = 20 := by rw [hz1]; split; exact Or.inr rfl; exact Or.inl rfl
  clear hnd hl hp hE hR hn hnl hw3 hk5 hb3 hb hpe hz1 hf1 hf2 hf3 hno0 hrg0 h3 h4 h5 hF hL hr3
  go_enter Tryz.func28, Tryz.ntmps28
  go_wp2_with (first | refine wpList_load_mid rfl 44 _ rfl g (off + k * 3) rfl _ _ hrg Tryz.underlying44 rfl infoPk ?_ | (refine wpList_store_new rfl 44 _ _ rfl w zeroPk #[.string p.nm, .string p.vr, .slice na nl nc] 44 rfl w.heap.size rfl rfl rfl infoPk rfl (pk_one _ _ _ _ _) ?_; rw [hw3']; rw [hk5']) | fail)
  refine hnm.mono ?_
  rintro e w4 ⟨rfl, hw4⟩
  rw [hw4]
  clear hw4 hnm hrg hw3'
  cases b with
  | false =>
    have HR17 : Hid (R = 17) := HR.out.trans (packE_17 HBn.out)
    go_wp2
    go_ret2
    exact ⟨_, by rw [HR17.out]; rfl, HB3.out⟩
  | true =>
    go_wp2_with fail
    refine (HPs.out w3).mono ?_
    rintro e w4 ⟨rfl, hb4⟩
    have HB4 : Hid (Below w3.heap.size w3 w4) := hb4
    have hb5 : Below w4.heap.size w4 (w4.alloc (.cells (verC v1) 104)) := (Below.refl _ _).alloc (Nat.le_refl _) _
    obtain ⟨w5, hw5⟩ : ∃ x, x = w4.alloc (.cells (verC v1) 104) := ⟨_, rfl⟩
    rw [← hw5] at hb5
    have hw5' := hw5.symm
    have HB5 : Hid (Below w.heap.size w w5) := HB3.out.trans ((HB4.out.trans (hb5.mono HB4.out.size)).mono HB3.out.size)
    have HR5 : Hid (Row w5 k5 #[.string p.nm, .string p.vr, .slice na nl nc] 44) := HR3.out.below (HB4.out.trans (hb5.mono HB4.out.size)) HR3.out.lt
    clear hb4 hb5 hw5 d0 d1
    go_upto_region 5 with (refine wpList_store_new rfl 104 _ _ rfl w4 zeroC (verC v1) 104 rfl w4.heap.size rfl rfl rfl infoRs rfl (verC_one v1) ?_; rw [hw5'])
    rcases hzc with hz | hz
    · subst hz
      have HV : Hid (¬ (parseV (vb p.vr)).isNone = true) := fun h => by
        have h2 := HZ1.out
        rw [if_pos h] at h2
        exact absurd h2 (by decide)
      have HKE : Hid (∀ i (h : i < k), ∃ q, q ∈ L ∧ (L.take (i + 1)).map Pak.key = (L.take i).map Pak.key ++ [q.key] ∧ ∀ wx, Below w.heap.size w wx → wx.cell? ⟨g, off + i * 3, none⟩ = some (.string q.nm) ∧ wx.cell? ⟨g, off + i * 3 + 1, none⟩ = some (.string q.vr)) := fun i hi => by
        have hiL : i < L.length := by have := HN.out; omega
        obtain ⟨na, nc, hr, _⟩ := HA5.out i hiL
        exact ⟨L[i], List.getElem_mem _, by rw [List.take_succ_eq_append_getElem hiL, List.map_append]; rfl, fun wx hx => ⟨hr wx hx 0 _ rfl, hr wx hx 1 _ rfl⟩⟩
      go_wp2
      go_loopw [9] (fun iv wi => ∃ i : Nat, i ≤ k ∧ iv = .int .i64 i ∧ Below w5.heap.size w5 wi ∧ Hid (p.key ∉ (L.take i).map Pak.key)) (fun iv _ => k - (intOf iv).toNat)
      case atStart => exact ⟨0, Nat.zero_le _, rfl, Below.refl _ _, by show _ ∉ _; simp⟩
      case round =>
        obtain ⟨i, hi, rfl, hb, HI⟩ := hrel
        have HB : Hid (Below w5.heap.size w5 wr) := hb
        clear hb
        by_cases hlt : i < k
        · have hlt' : (i : Int) < (k : Int) := by omega
          have hin' : (i : Int) < (n : Int) := by omega
          obtain ⟨q, hq1, hq2, hq3⟩ := HKE.out i hlt
          have HQ2 : Hid ((L.take (i + 1)).map Pak.key = (L.take i).map Pak.key ++ [q.key]) := hq2
          obtain ⟨cq0, cq1⟩ := hq3 wr (HB5.out.trans (HB.out.mono HB5.out.size))
          obtain ⟨qn, hqn⟩ : ∃ x, x = q.nm := ⟨_, rfl⟩
          obtain ⟨qv, hqv⟩ : ∃ x, x = q.vr := ⟨_, rfl⟩
          rw [← hqn] at cq0
          rw [← hqv] at cq1
          have HQK : Hid (q.key = (qn, qv)) := by show (q.nm, q.vr) = _; rw [hqn, hqv]
          have hrr : Row wr k5 #[.string p.nm, .string p.vr, .slice na nl nc] 44 := HR5.out.below HB.out HR5.out.lt
          have d0 : wr.cell? ⟨k5, 0, none⟩ = some (.string p.nm) := (hrr.cell 0).trans rfl
          have d1 : wr.cell? ⟨k5, 1, none⟩ = some (.string p.vr) := (hrr.cell 1).trans rfl
          have HBq : Hid (∀ q, Below w5.heap.size w5 (wr.drewN q)) := fun q => HB.out.trans ⟨rfl, rfl, rfl, Nat.le_refl _, fun _ _ => rfl⟩
          clear hq1 hq2 hq3 hqn hqv hrr
          by_cases e1 : qn = p.nm
          · rw [e1] at cq0
            by_cases e2 : qv = p.vr
            · rw [e2] at cq1
              have HR13 : Hid (R = 13) := by
                have hm : (p.nm, p.vr) ∈ E := by
                  rw [HE.out]
                  have h1 : (p.nm, p.vr) ∈ (L.take (i + 1)).map Pak.key := by rw [HQ2.out, HQK.out, e1, e2]; simp
                  obtain ⟨x, hx, he⟩ := List.mem_map.1 h1
                  exact List.mem_map.2 ⟨x, by
                    have h3 : L.take (i + 1) = (L.take k).take (i + 1) := by rw [List.take_take]; congr 1; omega
                    rw [h3] at hx
                    exact List.mem_of_mem_take hx, he⟩
                exact HR.out.trans (packE_13 HBn.out HV.out hm)
              clear e1 e2
              go_wp2
              go_quiet (fail)
              go_wp2
              go_ret2
              exact ⟨_, by rw [HR13.out]; rfl, HB5.out.trans ((HBq.out _).mono HB5.out.size)⟩
            · have hne1 : ¬ qv.toList = p.vr.toList := fun e => e2 (list_eq.1 e)
              have hne2 : (qv.toList == p.vr.toList) = false := by simpa using hne1
              have HI2 : Hid (p.key ∉ (L.take (i + 1)).map Pak.key) := fun h => by
                rw [HQ2.out, HQK.out] at h
                rcases List.mem_append.1 h with h | h
                · exact HI.out h
                · exact e2 (congrArg Prod.snd (List.mem_singleton.1 h)).symm
              clear e1
              go_wp2
              go_quiet (fail)
              go_wp2
              go_roundw
              case rel => exact ⟨i + 1, by omega, by go_num, HBq.out _, HI2.out⟩
              case measure => simp [intOf]; omega
          · have hne1 : ¬ qn.toList = p.nm.toList := fun e => e1 (list_eq.1 e)
            have hne2 : (qn.toList == p.nm.toList) = false := by simpa using hne1
            have HI2 : Hid (p.key ∉ (L.take (i + 1)).map Pak.key) := fun h => by
              rw [HQ2.out, HQK.out] at h
              rcases List.mem_append.1 h with h | h
              · exact HI.out h
              · exact e1 (congrArg Prod.fst (List.mem_singleton.1 h)).symm
            go_wp2
            go_quiet (fail)
            go_wp2
            go_roundw
            case rel => exact ⟨i + 1, by omega, by go_num, HBq.out _, HI2.out⟩
            case measure => simp [intOf]; omega
        · have hlt' : ¬ (i : Int) < (k : Int) := by omega
          obtain rfl : i = k := by omega
          have HRn : Hid (R = needsE [] p.nd) := HR.out.trans (packE_go HBn.out HV.out (by rw [HE.out]; exact HI.out))
          have HNC : Hid (0 < nl → ∃ ng noff, na = some ⟨ng, noff, none⟩ ∧ ∀ wx, Below w.heap.size w wx → ∀ i (h : i < p.nd.length), wx.cell? ⟨ng, noff + i * 2, none⟩ = some (.string p.nd[i].nm) ∧ wx.cell? ⟨ng, noff + i * 2 + 1, none⟩ = some (.string p.nd[i].rg)) := fun h0 => by
            obtain ⟨a', ng, noff, c', he, _, h3, _, h5⟩ := (HNo.out w (Below.refl _ _)).ex
            simp only [Value.slice.injEq] at he
            obtain ⟨rfl, -, rfl⟩ := he
            obtain ⟨hna, hlt⟩ := h3 (by have := HNl.out; omega)
            exact ⟨ng, noff, hna, fun wx hx i hi => ⟨(hx.cell (p := ⟨ng, noff + i * 2 + 0, none⟩) hlt).trans (h5 i hi 0 _ rfl), (hx.cell (p := ⟨ng, noff + i * 2 + 1, none⟩) hlt).trans (h5 i hi 1 _ rfl)⟩⟩
          obtain ⟨wE, rfl⟩ : ∃ x, x = wr := ⟨wr, rfl⟩
          have HBE : Hid (Below w.heap.size w wE) := HB5.out.trans (HB.out.mono HB5.out.size)
          have HRE : Hid (Row wE k5 #[.string p.nm, .string p.vr, .slice na nl nc] 44) := HR5.out.below HB.out HR5.out.lt
          clear HI HB HKE HV HBn HPs HA5 HR HB5 HR5
          go_wp2
          go_loopw [10] (fun jv wi => ∃ j : Nat, j ≤ nl ∧ jv = .int .i64 j ∧ Below wE.heap.size wE wi ∧ Hid (R = needsE (p.nd.take j) (p.nd.drop j))) (fun jv _ => nl - (intOf jv).toNat)
          case atStart => exact ⟨0, Nat.zero_le _, rfl, Below.refl _ _, by show _ = _; rw [List.drop_zero]; exact HRn.out⟩
          case round =>
            obtain ⟨j, hj, rfl, hb, HJ⟩ := hrel
            have HBw : Hid (Below w.heap.size w wr) := HBE.out.trans (hb.mono HBE.out.size)
            have HRr : Hid (Row wr k5 #[.string p.nm, .string p.vr, .slice na nl nc] 44) := HRE.out.below hb HRE.out.lt
            have d2 : wr.cell? ⟨k5, 2, none⟩ = some (.slice na nl nc) := (HRr.out.cell 2).trans rfl
            have HBj : Hid (Below wE.heap.size wE wr) := hb
            clear hb
            by_cases hjl : j < nl
            · have hjl' : (j : Int) < (nl : Int) := by omega
              have hjd : j < p.nd.length := by have := HNl.out; omega
              obtain ⟨ng, noff, hna, hcs⟩ := HNC.out (by omega)
              subst hna
              have HCs : Hid (∀ wx, Below w.heap.size w wx → ∀ i (h : i < p.nd.length), wx.cell? ⟨ng, noff + i * 2, none⟩ = some (.string p.nd[i].nm) ∧ wx.cell? ⟨ng, noff + i * 2 + 1, none⟩ = some (.string p.nd[i].rg)) := hcs
              obtain ⟨nd, hnd⟩ : ∃ x, x = p.nd[j] := ⟨_, rfl⟩
              have HCj : Hid (∀ wx, Below w.heap.size w wx → wx.cell? ⟨ng, noff + j * 2, none⟩ = some (.string nd.nm) ∧ wx.cell? ⟨ng, noff + j * 2 + 1, none⟩ = some (.string nd.rg)) := fun wx hx => by rw [hnd]; exact hcs wx hx j hjd
              have HDj : Hid (p.nd.drop j = nd :: p.nd.drop (j + 1)) := by show _ = _; rw [List.drop_eq_getElem_cons hjd, hnd]
              have HTj : Hid (p.nd.take (j + 1) = p.nd.take j ++ [nd]) := by show _ = _; rw [List.take_succ_eq_append_getElem hjd, hnd]
              obtain ⟨hf1, hf2⟩ := HF3.out nd (by rw [hnd]; exact List.getElem_mem _)
              have hnm := refName_ok nd.nm hf1 wr
              obtain ⟨b2, hb2⟩ : ∃ b, b = nameI (vb nd.nm) := ⟨_, rfl⟩
              rw [← hb2] at hnm
              have HB2 : Hid (b2 = nameI (vb nd.nm)) := hb2
              obtain ⟨z2, hz2⟩ : ∃ z : Int, z = if (rangeS (vb nd.rg)).isNone = true then 21 else 0 := ⟨_, rfl⟩
              have HZ2 : Hid (z2 = if (rangeS (vb nd.rg)).isNone = true then 21 else 0) := hz2
              have HRc : Hid (∀ wx, Calls Tryz.prog 51 #[.string nd.rg] wx fun e w' => ∃ v : Value, e = .returned (.tuple #[v, .int .i64 z2]) ∧ Below wx.heap.size wx w') := fun wx => by rw [hz2]; exact refRange_code nd.rg wx hf2
              have hzc2 : z2 = 0 ∨ z2 = 21 := by rw [hz2]; split; exact Or.inr rfl; exact Or.inl rfl
              have c0 := (HCj.out wr HBw.out).1
              have c1 := (HCj.out wr HBw.out).2
              clear hcs hnd hf1 hf2 hb2 hz2
              go_wp2_with fail
              refine hnm.mono ?_
              rintro e w7 ⟨rfl, hw7⟩
              rw [hw7]
              clear hw7 hnm
              cases b2 with
              | false =>
                have HR17 : Hid (R = 17) := HJ.out.trans (needsE_17 HDj.out HB2.out)
                go_wp2
                go_ret2
                exact ⟨_, by rw [HR17.out]; rfl, HBw.out⟩
              | true =>
                go_wp2_with fail
                refine (HRc.out wr).mono ?_
                rintro e w8 ⟨v8, rfl, hb8⟩
                have HB8 : Hid (Below w.heap.size w w8) := HBw.out.trans (hb8.mono HBw.out.size)
                have HBE8 : Hid (Below wE.heap.size wE w8) := HBj.out.trans (hb8.mono HBj.out.size)
                have HR8 : Hid (Row w8 k5 #[.string p.nm, .string p.vr, .slice (some ⟨ng, noff, none⟩) nl nc] 44) := HRr.out.below hb8 HRr.out.lt
                clear hb8 c0 c1 d2
                rcases hzc2 with hz | hz
                · subst hz
                  have HV2 : Hid (¬ (rangeS (vb nd.rg)).isNone = true) := fun h => by
                    have h2 := HZ2.out
                    rw [if_pos h] at h2
                    exact absurd h2 (by decide)
                  go_wp2
                  go_loopw [13] (fun iv wi => ∃ i : Nat, i ≤ j ∧ iv = .int .i64 i ∧ Below w8.heap.size w8 wi ∧ Hid (nd.nm ∉ (p.nd.take i).map Ned.nm)) (fun iv _ => j - (intOf iv).toNat)
                  case atStart => exact ⟨0, Nat.zero_le _, rfl, Below.refl _ _, by show _ ∉ _; simp⟩
                  case round =>
                    obtain ⟨i, hi, rfl, hb, HI⟩ := hrel
                    have HB : Hid (Below w8.heap.size w8 wr) := hb
                    have HBx : Hid (Below w.heap.size w wr) := HB8.out.trans (hb.mono HB8.out.size)
                    have HBEx : Hid (Below wE.heap.size wE wr) := HBE8.out.trans (hb.mono HBE8.out.size)
                    have d2 : wr.cell? ⟨k5, 2, none⟩ = some (.slice (some ⟨ng, noff, none⟩) nl nc) := ((HR8.out.below hb HR8.out.lt).cell 2).trans rfl
                    clear hb
                    by_cases hlt : i < j
                    · have hlt' : (i : Int) < (j : Int) := by omega
                      have hil' : (i : Int) < (nl : Int) := by omega
                      have hid : i < p.nd.length := by omega
                      obtain ⟨qn, hqn⟩ : ∃ x, x = p.nd[i].nm := ⟨_, rfl⟩
                      have c0 := (HCj.out wr HBx.out).1
                      have cq := (HCs.out wr HBx.out i hid).1
                      rw [← hqn] at cq
                      have HTi : Hid ((p.nd.take (i + 1)).map Ned.nm = (p.nd.take i).map Ned.nm ++ [qn]) := by show _ = _; rw [List.take_succ_eq_append_getElem hid, List.map_append, hqn]; rfl
                      have HBq : Hid (∀ q, Below w8.heap.size w8 (wr.drewN q)) := fun q => HB.out.trans ⟨rfl, rfl, rfl, Nat.le_refl _, fun _ _ => rfl⟩
                      clear hqn
                      by_cases e1 : qn = nd.nm
                      · rw [e1] at cq
                        have HR13 : Hid (R = 13) := by
                          have hm : nd.nm ∈ (p.nd.take j).map Ned.nm := by
                            have h1 : nd.nm ∈ (p.nd.take (i + 1)).map Ned.nm := by rw [HTi.out, e1]; simp
                            obtain ⟨x, hx, he⟩ := List.mem_map.1 h1
                            exact List.mem_map.2 ⟨x, by
                              have h3 : p.nd.take (i + 1) = (p.nd.take j).take (i + 1) := by rw [List.take_take]; congr 1; omega
                              rw [h3] at hx
                              exact List.mem_of_mem_take hx, he⟩
                          exact HJ.out.trans (needsE_13 HDj.out HB2.out HV2.out hm)
                        clear e1
                        go_wp2
                        go_quiet (fail)
                        go_wp2
                        go_ret2
                        exact ⟨_, by rw [HR13.out]; rfl, HB8.out.trans ((HBq.out _).mono HB8.out.size)⟩
                      · have hne1 : ¬ qn.toList = nd.nm.toList := fun e => e1 (list_eq.1 e)
                        have hne2 : (qn.toList == nd.nm.toList) = false := by simpa using hne1
                        have HI2 : Hid (nd.nm ∉ (p.nd.take (i + 1)).map Ned.nm) := fun h => by
                          rw [HTi.out] at h
                          rcases List.mem_append.1 h with h | h
                          · exact HI.out h
                          · exact e1 (List.mem_singleton.1 h).symm
                        go_wp2
                        go_quiet (fail)
                        go_wp2
                        go_roundw
                        case rel => exact ⟨i + 1, by omega, by go_num, HBq.out _, HI2.out⟩
                        case measure => simp [intOf]; omega
                    · have hlt' : ¬ (i : Int) < (j : Int) := by omega
                      obtain rfl : i = j := by omega
                      have HJ2 : Hid (R = needsE (p.nd.take (i + 1)) (p.nd.drop (i + 1))) := by
                        show _ = _
                        rw [HJ.out, HTj.out]
                        exact needsE_go HDj.out HB2.out HV2.out HI.out
                      go_wp2
                      go_roundw
                      case rel => exact ⟨i + 1, by omega, by go_num, HBEx.out, HJ2.out⟩
                      case measure => simp [intOf]; omega
                · subst hz
                  have HR21 : Hid (R = 21) := by
                    have h1 : (rangeS (vb nd.rg)).isNone = true := by
                      by_cases h : (rangeS (vb nd.rg)).isNone = true
                      · exact h
                      · have h2 := HZ2.out
                        rw [if_neg h] at h2
                        exact absurd h2 (by decide)
                    exact HJ.out.trans (needsE_21 HDj.out HB2.out h1)
                  go_wp2
                  go_ret2
                  exact ⟨_, by rw [HR21.out]; rfl, HB8.out⟩
            · have hjl' : ¬ (j : Int) < (nl : Int) := by omega
              have HR0 : Hid (R = 0) := by
                show _ = _
                rw [HJ.out, List.drop_eq_nil_of_le (by have := HNl.out; omega)]
                rfl
              go_wp2
              go_ret2
              exact ⟨_, by rw [HR0.out]; rfl, HBw.out⟩
    · subst hz
      have HR20 : Hid (R = 20) := by
        have h1 : (parseV (vb p.vr)).isNone = true := by
          by_cases h : (parseV (vb p.vr)).isNone = true
          · exact h
          · have h2 := HZ1.out
            rw [if_neg h] at h2
            exact absurd h2 (by decide)
        exact HR.out.trans (packE_20 HBn.out h1)
      go_wp2
      go_ret2
      exact ⟨_, by rw [HR20.out]; rfl, HB5.out⟩
end Go.Proofs.YtkbhckjpmgkgjaaGreatDoor
