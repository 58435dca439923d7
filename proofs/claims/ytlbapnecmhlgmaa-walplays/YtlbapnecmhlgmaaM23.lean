/- The law's acts on both sides, call by call. -/
import Derived.Test.YtlbapnecmhlgmaaM22
namespace Go.Proofs.Ytlbapnecmhlgmaa
open Go.RowKit

section
variable {B A sec gp m : Nat} {gr : Nat} {fv : Value} {g g1 c1 g2 c2 : Nat} {ev : Value} {D : Dk} {gj gm : Nat} {L : List Pt} {gq : Nat} {lv : Value} {K : List Nat} {w : World}
theorem Kq.of {ts : List TypeId} {B : Nat} {w w' : World} (h : Stay ts w w') (h1 : 39 ∉ ts) (h2 : 43 ∉ ts) (h3 : 5 ∉ ts) (hb : Below B w w') : Kq B w w' :=
  ⟨fun _ _ _ hr ht => h.row' hr (by rcases ht with e | e | e <;> subst e <;> assumption), hb⟩
theorem Kq.trans {B : Nat} {a b c : World} (h : Kq B a b) (k : Kq B b c) : Kq B a c := ⟨fun q C t hr ht => k.row q C t (h.row q C t hr ht) ht, h.old.trans k.old⟩
theorem Kq.kp {B : Nat} {a b : World} (h : Kq B a b) : Kp B a b := ⟨fun q C t hr ht => h.row q C t hr (ht.elim .inl (fun e => .inr (.inl e))), h.old⟩
theorem Kp.trans {B : Nat} {a b c : World} (h : Kp B a b) (k : Kp B b c) : Kp B a c := ⟨fun q C t hr ht => k.row q C t (h.row q C t hr ht) ht, h.old.trans k.old⟩
theorem pv_below {w' : World} (h : PairAt w B gr fv B g g1 c1 g2 c2 ev D B gj gm ⟨A, sec, L⟩ B gq lv K gp w) (hok : Jn.ok ⟨A, sec, L⟩ D.s) (h12 : D.s = 12) (hm : D.E.length ≤ m) (hb : Below w.heap.size w w') : Pv B A sec gp m w' := by
  have h' := h.below hb
  exact ⟨gr, fv, g, g1, c1, g2, c2, ev, D, gj, gm, L, gq, lv, K, ⟨h'.row, h'.d, h'.j, h'.r.self, h'.q, h'.keys, h'.b⟩, hok, h12, hm⟩

/-- The same, with the blocks of the disk's bytes told. -/
structure Pv2 (B A sec gp n g1 g2 : Nat) (w : World) : Prop where
  ex : ∃ gr fv g c1 c2 ev D gj gm L gq lv K, PairAt w B gr fv B g g1 c1 g2 c2 ev D B gj gm ⟨A, sec, L⟩ B gq lv K gp w ∧ Jn.ok ⟨A, sec, L⟩ D.s ∧ D.s = 12 ∧ D.E.length ≤ n
theorem pv2_below {w' : World} (h : PairAt w B gr fv B g g1 c1 g2 c2 ev D B gj gm ⟨A, sec, L⟩ B gq lv K gp w) (hok : Jn.ok ⟨A, sec, L⟩ D.s) (h12 : D.s = 12) (hm : D.E.length ≤ m) (hb : Below w.heap.size w w') : Pv2 B A sec gp m g1 g2 w' := by
  have h' := h.below hb
  exact ⟨gr, fv, g, c1, c2, ev, D, gj, gm, L, gq, lv, K, ⟨h'.row, h'.d, h'.j, h'.r.self, h'.q, h'.keys, h'.b⟩, hok, h12, hm⟩
/-- Bytes of another's change. -/
theorem Pv2.set {n gi : Nat} {C : Array Value} (h : Pv2 B A sec gp n g1 g2 w) (hr : Row w gi C 5) (h1 : gi ≠ g1) (h2 : gi ≠ g2) (z : Value) : Pv B A sec gp n (w.setCell ⟨gi, 0, none⟩ z) := by
  obtain ⟨gr, fv, g, c1, c2, ev, D, gj, gm, L, gq, lv, K, h, hok, h12, hn⟩ := h
  have hst : Stay [5] w (w.setCell ⟨gi, 0, none⟩ z) := Stay.of_set hr _ _
  refine ⟨gr, fv, g, g1, c1, g2, c2, ev, D, gj, gm, L, gq, lv, K, ⟨hst.row' h.row (by decide), h.d.keep fun k hk => ?_, h.j.stay hst (by decide), h.r.stay hst (by decide), h.q.stay hst (by decide), h.keys, by rw [show (w.setCell ⟨gi, 0, none⟩ z).heap.size = w.heap.size by simp]; exact h.b⟩, hok, h12, hn⟩
  rcases hk with rfl | rfl | rfl | hk
  · exact hst.row h.d.row (by decide)
  · exact heap_setCell_other w ⟨gi, 0, none⟩ _ z (Ne.symm h1)
  · exact heap_setCell_other w ⟨gi, 0, none⟩ _ z (Ne.symm h2)
  · obtain ⟨_, _, cur, hr⟩ := ownsRow_lt h.d.evs k hk
    exact hst.row hr (by decide)
theorem PairAt.qq {w0 : World} (h : PairAt w0 B gr fv B g g1 c1 g2 c2 ev D B gj gm ⟨A, sec, L⟩ B gq lv K gp w) : QAt w B gq gr A sec lv (putsR L K) := h.q
theorem ok_nil {s s' : Nat} (h : Jn.ok ⟨A, sec, L⟩ s) (e : s' = s) : Jn.ok ⟨A, sec, []⟩ s' := ⟨h.lo, h.hi, by rw [e]; exact h.fits, Nat.zero_le _, fun p hp => by cases hp⟩
theorem pair_put (h : PairAt w B gr fv B g g1 c1 g2 c2 ev D B gj gm ⟨A, sec, L⟩ B gq lv K gp w) (hok : Jn.ok ⟨A, sec, L⟩ D.s) (h12 : D.s = 12) (hm : D.E.length ≤ m) (n : Int) (gi ci gb cb : Nat) (f : Nat → Int) (hf : ∀ i, 0 ≤ f i ∧ f i < 256)
    (si : Array Value) (hi : Row w gi si 5) (hci : ∀ i, i < 256 → si[i]? = some (.int .u8 (f i))) (sb : Array Value) (hb : Row w gb sb 5) (hcb : ∀ i, i < 256 → sb[i]? = some (.int .u8 (f i))) :
    Calls Try.prog 13 #[.pointer (some ⟨gj, 0, none⟩), .int .i64 n, .slice (some ⟨gi, 0, none⟩) 256 ci] w fun e w1 => ∃ r, e = .returned (.int .i64 r) ∧ Kq B w w1 ∧
      Calls Try.prog 14 #[.pointer (some ⟨gq, 0, none⟩), .int .i64 n, .slice (some ⟨gb, 0, none⟩) 256 cb] w1 fun e2 w2 => e2 = .returned (.int .i64 r) ∧ Kq B w1 w2 ∧ Pv2 B A sec gp m g1 g2 w2 := by
  have hlo := hok.lo
  have hhi := hok.hi
  have hfit := hok.fits
  have hfew := hok.few
  simp only at hlo hhi hfit hfew
  have hkl := h.keys.len
  simp only at hkl
  have hB := h.b
  by_cases hn : n < 0 ∨ (D.s : Int) ≤ n ∨ ((A : Int) ≤ n ∧ n < (A : Int) + sec)
  · refine (put_arg h.d h.j (by simp only; omega) n _ hn).mono ?_
    rintro e w1 ⟨rfl, hb1⟩
    refine ⟨2, rfl, Kq.below hb1 hB, ?_⟩
    have h1 := h.below hb1
    refine (rput_arg h1.r h1.qq (by omega) (by omega) n _ hn).mono ?_
    rintro e w2 ⟨rfl, hb2⟩
    exact ⟨rfl, Kq.below hb2 h1.b, pv2_below h hok h12 hm (hb1.trans (hb2.mono hb1.size))⟩
  · obtain ⟨k, rfl⟩ : ∃ k : Nat, n = k := ⟨n.toNat, by omega⟩
    have hk : k < D.s := by omega
    have hno : k < A ∨ A + sec ≤ k := by omega
    refine (put_ok h.d h.j hok k hk hno gi ci f hf si hi hci).mono ?_
    rintro e w1 (⟨rfl, hln, hll, hb1⟩ | ⟨rfl, hcase, L', w1', hJ1, hok1, hl, hb1, hJ1', hone⟩)
    · refine ⟨3, rfl, Kq.below hb1 hB, ?_⟩
      have h1 := h.below hb1
      have hnK : k ∉ K := fun hm => by
        have := lookL_mem.2 ((h.keys.mem k).1 hm)
        simp only at this
        simp only at hln
        rw [hln] at this
        cases this
      obtain ⟨p, hp, hp1, hp2⟩ := place_of K k h.keys.up hnK
      simp only at hll
      refine (rput_new h1.r h1.qq h1.b (by omega) (by omega) (by omega) (by omega) k p hp hp1 hp2 hk hno gb 0 cb f (fun wx hbx i hi => by
        rw [Nat.zero_add, ((hb.below hb1 hb.lt).below hbx (hb.below hb1 hb.lt).lt).cell i]
        exact hcb i hi)).mono ?_
      rintro e w2 (⟨rfl, _, hb2⟩ | ⟨_, hlt, _⟩)
      · exact ⟨rfl, Kq.below hb2 h1.b, pv2_below h hok h12 hm (hb1.trans (hb2.mono hb1.size))⟩
      · omega
    · have hkw : Kq B w w1 := by
        refine (Kq.below hb1 hB).trans ⟨fun q C t hr _ => hone.rows hJ1'.map q C t hr, hone.belowB hJ1'.geM⟩
      refine ⟨0, rfl, hkw, ?_⟩
      have h1 := h.below hb1
      have hro := hone.ro hJ1'.map
      have hD1 := h1.d.one hJ1'.map hone
      have hR1 := h1.r.ro hro
      have hQ1 := h1.qq.ro hro
      have hB1 : B ≤ w1.heap.size := Nat.le_trans hB hkw.old.size
      have hcell : ∀ wx, Below w1.heap.size w1 wx → ∀ i, i < 256 → wx.cell? ⟨gb, 0 + i, none⟩ = some (.int .u8 (f i)) := fun wx hbx i hi => by
        have hb' := hkw.row _ _ _ hb (.inr (.inr rfl))
        rw [Nat.zero_add, (hb'.below hbx hb'.lt).cell i]
        exact hcb i hi
      have hnd := hJ1.map.nodup
      simp only at hnd hl hcase
      have hkeys := h.keys
      have hrow1 := hkw.kp
      by_cases hin : k ∈ K
      · obtain ⟨p, hp, e⟩ := mem_getD K k hin
        have hKn : KeysOf L' K := KeysOf.of_mem hkeys.up (fun x => by
          rw [look_mem' hl, ← hkeys.mem x]
          exact ⟨.inr, fun hx => hx.elim (fun e => e ▸ hin) id⟩) hnd
        have hput := rput_set hR1 hQ1 (by omega) (by omega) (by omega) p hp hkeys.up (by rw [e]; exact hk) (by rw [e]; exact hno) gb 0 cb f hcell
        simp only [e] at hput
        refine hput.mono ?_
        rintro e w2 ⟨rfl, hQ2, wa, gl, hba, rfl, hgl⟩
        rw [puts_set hkeys hl p hp (by assumption)] at hQ2
        obtain ⟨_, _, cur, hrl⟩ := ownsRow_lt (ownsRow_keep (w' := wa) hQ1.puts (fun q _ hq => hba.block q hq)) gl hgl
        have hgB := (ownsRow_lt hQ1.puts gl hgl).2.1
        have hst : Stay [86] w1 (wa.setCell ⟨gl, p * 2 + 1, none⟩ (.string (sStr f))) := (Stay.of_below hba).trans (Stay.of_set hrl _ _)
        have hbw : Below B w1 (wa.setCell ⟨gl, p * 2 + 1, none⟩ (.string (sStr f))) := (hba.mono hB1).trans (Below.set _ hgB)
        refine ⟨rfl, Kq.of hst (by decide) (by decide) (by decide) hbw, ⟨gr, fv, g, c1, c2, ev, D, gj, gm, L', gq, lv, K, ?_, hok1, h12, hm⟩⟩
        exact PairAt.mk' h.row rfl (hrow1.trans (Kp.of hst (by decide) (by decide) hbw)) (hD1.stay hst (by decide)) (hJ1.stay hst (by decide)) (hR1.stay hst (by decide)) rfl hQ2 hKn (Nat.le_trans hB1 hbw.size)
      · have hnone : (lookL L k).isSome = false := by
          cases hx : lookL L k with
          | none => rfl
          | some _ => exact absurd ((hkeys.mem k).2 (lookL_mem.1 (by simp only; rw [hx]; rfl))) hin
        have hfew' : L.length < sec - 1 := by
          rcases hcase with h | h
          · rw [hnone] at h; cases h
          · exact h
        obtain ⟨p, hp, hp1, hp2⟩ := place_of K k hkeys.up hin
        refine (rput_new hR1 hQ1 hB1 (by omega) (by omega) (by omega) (by omega) k p hp hp1 hp2 hk hno gb 0 cb f hcell).mono ?_
        rintro e w2 (⟨_, hbad, _⟩ | ⟨rfl, hlt, lv', hQ2, wa, hba, rfl⟩)
        · omega
        · rw [puts_new hl p hin] at hQ2
          have hrq : Row wa gq _ 50 := hQ1.row.below hba hQ1.row.lt
          have hst : Stay [50] w1 (wa.setCell ⟨gq, 3, none⟩ lv') := (Stay.of_below hba).trans (Stay.of_set hrq _ _)
          have hbw : Below B w1 (wa.setCell ⟨gq, 3, none⟩ lv') := (hba.mono hB1).trans (Below.set _ hQ1.ge)
          refine ⟨rfl, Kq.of hst (by decide) (by decide) (by decide) hbw, ⟨gr, fv, g, c1, c2, ev, D, gj, gm, L', gq, lv', K.take p ++ [k] ++ K.drop p, ?_, hok1, h12, hm⟩⟩
          exact PairAt.mk' h.row rfl (hrow1.trans (Kp.of hst (by decide) (by decide) hbw)) (hD1.stay hst (by decide)) (hJ1.stay hst (by decide)) (hR1.stay hst (by decide)) rfl hQ2 (keys_new hkeys hl hnd p hp1 hp2) (Nat.le_trans hB1 hbw.size)

theorem qat_nil {w : World} {base gq gr A sec : Nat} {lv : Value} {P : List Rv} (h : QAt w base gq gr A sec lv P) : QAt (w.setCell ⟨gq, 3, none⟩ (.slice none 0 0)) base gq gr A sec (.slice none 0 0) [] :=
  ⟨h.row.setCell _, World.ownsRow_nil _ _ _ _, h.ge⟩
theorem pair_abort (h : PairAt w B gr fv B g g1 c1 g2 c2 ev D B gj gm ⟨A, sec, L⟩ B gq lv K gp w) (hok : Jn.ok ⟨A, sec, L⟩ D.s) (h12 : D.s = 12) (hm : D.E.length ≤ m) :
    Calls Try.prog 17 #[.pointer (some ⟨gj, 0, none⟩)] w fun e w1 => e = .returned (.int .i64 0) ∧ Kp B w w1 ∧ (w1.cell? ⟨gp, 3, none⟩ = some (.pointer (some ⟨gq, 0, none⟩)) ∧ w1.cell? ⟨gq, 3, none⟩ = some lv ∧ w1.frozen? ⟨gq, 3, none⟩ = false) ∧
      Hid (Pv B A sec gp m (w1.setCell ⟨gq, 3, none⟩ (.slice none 0 0)) ∧ Kp B w1 (w1.setCell ⟨gq, 3, none⟩ (.slice none 0 0))) := by
  refine (abort_yes h.d h.j).mono ?_
  rintro e w1 ⟨rfl, hJ1, hone⟩
  have hro := hone.ro h.j.map
  have hkw : Kp B w w1 := ⟨fun q C t hr _ => hone.rows h.j.map q C t hr, hone.belowB h.j.geM⟩
  have hD1 := h.d.one h.j.map hone
  have hR1 := h.r.ro hro
  have hQ1 := h.qq.ro hro
  have hB1 : B ≤ w1.heap.size := Nat.le_trans h.b hkw.old.size
  have hrow1 := hkw.row _ _ _ h.row (.inl rfl)
  have hst : Stay [50] w1 (w1.setCell ⟨gq, 3, none⟩ (.slice none 0 0)) := Stay.of_set hQ1.row _ _
  have hbw : Below B w1 (w1.setCell ⟨gq, 3, none⟩ (.slice none 0 0)) := Below.set _ hQ1.ge
  have hk2 := Kp.of hst (by decide) (by decide) hbw
  refine ⟨rfl, hkw, ⟨(hrow1.cell 3).trans rfl, (hQ1.row.cell 3).trans rfl, hQ1.row.frozen 3⟩, ⟨⟨gr, fv, g, g1, c1, g2, c2, ev, D, gj, gm, [], gq, .slice none 0 0, [], ?_, ok_nil hok rfl, h12, hm⟩, hk2⟩⟩
  exact PairAt.mk' h.row rfl (hkw.trans hk2) (hD1.stay hst (by decide)) (hJ1.stay hst (by decide)) (hR1.stay hst (by decide)) rfl (qat_nil hQ1) keys_nil (Nat.le_trans hB1 hbw.size)

theorem pair_commit (h : PairAt w B gr fv B g g1 c1 g2 c2 ev D B gj gm ⟨A, sec, L⟩ B gq lv K gp w) (hok : Jn.ok ⟨A, sec, L⟩ D.s) (h12 : D.s = 12) (hm : D.E.length ≤ m) (hm2 : m ≤ 100000) :
    Calls Try.prog 15 #[.pointer (some ⟨gj, 0, none⟩)] w fun e w1 => e = .returned (.int .i64 0) ∧ Kp B w w1 ∧
      Calls Try.prog 16 #[.pointer (some ⟨gq, 0, none⟩)] w1 fun e2 w2 => (∃ r, e2 = .returned r) ∧ Kp B w1 w2 ∧ Pv B A sec gp (m + 40) w2 := by
  have hlo := hok.lo
  have hhi := hok.hi
  have hfit := hok.fits
  have hfew := hok.few
  simp only at hlo hhi hfit hfew
  have hkl := h.keys.len
  simp only at hkl
  refine (commit_ro h.d h.b (by omega) h.j hok (by simp only; omega)).mono ?_
  rintro e w1 ⟨rfl, K', hK', ⟨hnil, hb1⟩ | ⟨hne, ev', hD1, hJ1, hb1, hro⟩⟩
  · obtain rfl := h.keys.uniq hK'
    subst hnil
    have h1 := h.below hb1
    refine ⟨rfl, Kp.below hb1 h.b, ?_⟩
    refine (rcommit_nil (P := putsR L []) h1.qq rfl).mono ?_
    rintro e w2 ⟨hr, rfl⟩
    exact ⟨hr, Kp.below (Below.refl _ _) h1.b, pv_below h hok h12 (by omega) hb1⟩
  · obtain rfl := h.keys.uniq hK'
    have hk1 : Kp B w w1 := ⟨fun q C t hr ht => hro.row q C t hr (by rcases ht with e | e <;> subst e <;> decide) (by rcases ht with e | e <;> subst e <;> decide) (by rcases ht with e | e <;> subst e <;> decide), hb1⟩
    have hB1 : B ≤ w1.heap.size := Nat.le_trans h.b hb1.size
    refine ⟨rfl, hk1, ?_⟩
    have hR1 := h.r.ro hro
    have hQ1 := h.qq.ro hro
    have hpos : 0 < K'.length := List.length_pos_iff.2 hne
    have hput : ∀ i, i < K'.length → ∃ p ∈ L, p.k = K'.getD i 0 := fun i hi => by
      have := (hK'.mem _).1 (getD_mem K' i hi)
      obtain ⟨p, hp, e⟩ := List.mem_map.1 this
      exact ⟨p, hp, e⟩
    refine (rcommit_ok hR1 hB1 (by omega) hQ1 hhi hfit hpos (by omega) (fun i hi => by
      obtain ⟨p, hp, e⟩ := hput i hi
      rw [← e]
      exact (hok.puts p hp).1) (fun i hi j => by
      obtain ⟨p, hp, e⟩ := hput i hi
      obtain ⟨q, hq⟩ := List.getElem?_of_mem hp
      have := lookL_some h.j.map.nodup hq
      rw [← e]
      unfold lookD
      simp only at this ⊢
      rw [this]
      exact (hok.puts p hp).2.2 j)).mono ?_
    rintro e w2 ⟨hr, wa, rfl, hRa, hQa, hfr⟩
    have hsa := Stay.of_frR hfr
    have hst : Stay [75, 96, 50] w1 (wa.setCell ⟨gq, 3, none⟩ (.slice none 0 0)) := (hsa.mono (by simp)).trans ((Stay.of_set hQa.row _ _).mono (by simp))
    have hsb : Stay [50] wa (wa.setCell ⟨gq, 3, none⟩ (.slice none 0 0)) := Stay.of_set hQa.row _ _
    have hbw : Below B w1 (wa.setCell ⟨gq, 3, none⟩ (.slice none 0 0)) := hRa.old.trans (Below.set _ hQ1.ge)
    have hk2 := Kp.of hst (by decide) (by decide) hbw
    refine ⟨hr, hk2, ⟨gr, fv, g, g1, c1, g2, c2, ev', comD D A L K', gj, gm, [], gq, .slice none 0 0, [], ?_, ok_nil hok (comD_s _ _ _ _), by rw [comD_s]; exact h12, by rw [comD_len]; omega⟩⟩
    exact PairAt.mk' h.row rfl (hk1.trans hk2) (hD1.stay hst (by decide)) (hJ1.stay hst (by decide)) (hRa.stay hsb (by decide)) rfl (qat_nil hQa) keys_nil (Nat.le_trans hB1 hbw.size)

theorem pair_write (h : PairAt w B gr fv B g g1 c1 g2 c2 ev D B gj gm ⟨A, sec, L⟩ B gq lv K gp w) (hok : Jn.ok ⟨A, sec, L⟩ D.s) (h12 : D.s = 12) (hm : D.E.length ≤ m) (hm2 : m ≤ 100000) (n : Int) (gb cb : Nat) (f : Nat → Int) (hf : ∀ i, 0 ≤ f i ∧ f i < 256)
    (sb : Array Value) (hb : Row w gb sb 5) (hcb : ∀ i, i < 256 → sb[i]? = some (.int .u8 (f i))) (hg2 : gb ≠ g2) :
    Calls Try.prog 19 #[.pointer (some ⟨g, 0, none⟩), .int .i64 n, .slice (some ⟨gb, 0, none⟩) 256 cb] w fun e w1 => ∃ r, e = .returned (.int .i64 r) ∧ Kp B w w1 ∧
      Calls Try.prog 20 #[.pointer (some ⟨gr, 0, none⟩), .int .i64 n, .slice (some ⟨gb, 0, none⟩) 256 cb] w1 fun e2 w2 => e2 = .returned (.int .i64 r) ∧ Kp B w1 w2 ∧ Pv B A sec gp (m + 40) w2 := by
  by_cases hn : 0 ≤ n ∧ n < D.s
  · obtain ⟨k, rfl⟩ : ∃ k : Nat, n = k := ⟨n.toNat, by omega⟩
    have hk : k < D.s := by omega
    refine (write_to h.d h.b (by omega) k hk gb 0 cb f sb 5 (by decide) hb hg2 (fun i hi => by rw [Nat.zero_add]; exact hcb i hi) hf).mono ?_
    rintro e w1 ⟨rfl, ev', hT⟩
    have hst := Stay.of_chg h.d hT.chg
    have hbw : Below B w w1 := hT.chg.to_below h.d.ge (ownsRow_slice h.d.now).1 (fun k hk => (ownsRow_lt h.d.evs k hk).2.1) h.b
    have hk1 := Kp.of hst (by decide) (by decide) hbw
    have hB1 : B ≤ w1.heap.size := Nat.le_trans h.b hbw.size
    have hb1 : Row w1 gb sb 5 := (hT.chg.block gb hb.lt (row_ne hb h.d.row (by decide)) hg2 (fun e => by
      obtain ⟨_, _, cur, hr⟩ := ownsRow_lt h.d.evs gb e
      exact row_ne hb hr (by decide) rfl)).trans hb
    have hR1 := h.r.stay hst (by decide)
    have hQ1 := h.qq.stay hst (by decide)
    have hJ1 := h.j.stay hst (by decide)
    refine ⟨0, rfl, hk1, ?_⟩
    refine (hR1.write hB1 (by omega) k hk gb 0 cb f hf sb _ hb1 (fun i hi => by rw [Nat.zero_add]; exact hcb i hi)).mono ?_
    rintro e w2 ⟨rfl, hR2, hfr⟩
    have hs2 := Stay.of_frR hfr
    have hk2 := Kp.of hs2 (by decide) (by decide) hR2.old
    refine ⟨rfl, hk2, ⟨gr, fv, g, g1, c1, g2, c2, ev', D.write k f, gj, gm, L, gq, lv, K, ?_, hok, h12, ?_⟩⟩
    · exact PairAt.mk' h.row rfl (hk1.trans hk2) (hT.disk.stay hs2 (by decide)) (hJ1.stay hs2 (by decide)) hR2 rfl (hQ1.stay hs2 (by decide)) h.keys (Nat.le_trans hB1 hR2.old.size)
    · show (D.E ++ [_]).length ≤ _
      rw [List.length_append]
      simp
      omega
  · refine (write_bad h.d n (some ⟨gb, 0, none⟩) 256 cb (.inl hn)).mono ?_
    rintro e w1 ⟨rfl, rfl⟩
    obtain ⟨rv, R, Fl, h1, h2, h3⟩ := h.r.ref
    refine ⟨2, rfl, Kp.below (Below.refl _ _) h.b, (refWrite_bad h1 n (some ⟨gb, 0, none⟩) 256 cb (.inl (by rw [h2.len]; exact hn))).mono ?_⟩
    rintro e w2 ⟨rfl, rfl⟩
    exact ⟨rfl, Kp.below (Below.refl _ _) h.b, pv_below h hok h12 (by omega) (Below.refl _ _)⟩
end
end Go.Proofs.Ytlbapnecmhlgmaa
