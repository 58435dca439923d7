/- The walk of the law WalNobody. -/
import Derived.Test.YtlbapnecmhlgmaaNoJ
import Derived.Test.YtlbapnecmhlgmaaSector
namespace Go.Proofs.Ytlbapnecmhlgmaa
open Go.RowKit

theorem info43 : (Try.prog.info? 43).map (·.size) = some 6 := by kernel_rfl

/-- What holds all through a round: the act, the journal that no call made, the list of both. -/
structure Nb (w0 : World) (A : Array Value) (d : Value) (w : World) : Prop where
  a : Row w w0.heap.size A 43
  z : Row w (w0.heap.size + 1) #[.pointer none, .int .i64 0, .int .i64 0, .map none] 56
  l : Row w (w0.heap.size + 2) #[.pointer none, .pointer (some ⟨w0.heap.size + 1, 0, none⟩)] 31
  no : NoJ w d
  old : Below w0.heap.size w0 w
theorem Nb.next {w0 : World} {A : Array Value} {d : Value} {w w' : World} (h : Nb w0 A d w) (hb : Below w.heap.size w w') : Nb w0 A d w' :=
  ⟨h.a.below hb h.a.lt, h.z.below hb h.z.lt, h.l.below hb h.l.lt, h.no.imp id (fun ⟨g, e, r⟩ => ⟨g, e, r.below hb r.lt⟩), h.old.trans (hb.mono h.old.size)⟩

set_option maxRecDepth 20000 in
set_option maxHeartbeats 2000000 in
theorem law_nobody (kind n back : Int) (a : Option Addr) (b off len cap : Nat) (f : Nat → Int) (fill : Int) (ka : Option Addr) (klen kcap : Nat) (w : World) (hl : len ≤ 140737488351232) (hB : Bs w a b off len f) (hnone : a = none → len = 0 ∧ cap = 0) :
    Calls Try.prog 4 #[.agg (actV kind n back a len cap fill ka klen kcap)] w fun e w' => e = .returned (.bool true) ∧ Below w.heap.size w w' := by
  have HS : Hid (∀ wr, Below w.heap.size w wr → Calls Try.prog 12 #[.agg (actV kind n back a len cap fill ka klen kcap)] wr fun e w' => ∃ g c, e = .returned (.slice (some ⟨g, 0, none⟩) 256 c) ∧ Below wr.heap.size wr w') := fun wr hb =>
    (sector_any kind n back a b off len cap f fill ka klen kcap wr hl (hB.belowAll hb) hnone).mono fun e w' ⟨g, c, he, _, _, _, _, _, hb'⟩ => ⟨g, c, he, hb'⟩
  obtain ⟨A, hA⟩ : ∃ A, A = actV kind n back a len cap fill ka klen kcap := ⟨_, rfl⟩
  have h1 : A[1]? = some (.int .i64 n) := by rw [hA]; rfl
  have hi43 : (Try.prog.info? 43).map (·.size) = some A.size := by rw [hA]; exact info43
  rw [← hA] at HS
  rw [← hA]
  clear hA hB hnone hl
  go_enter Try.func4, Try.ntmps4
  go_wp2
  go_loopw [15] (fun i wr => ∃ k : Nat, k ≤ 2 ∧ i = .int .i64 k ∧ Nb w A (.pointer none) wr) (fun i _ => 2 - (intOf i).toNat)
  case atStart =>
    have r1 := Row.new w A 43
    have r2 : Row ((w.alloc (.cells A 43)).alloc (.cells #[.pointer none, .int .i64 0, .int .i64 0, .map none] 56)) (w.heap.size + 1) #[.pointer none, .int .i64 0, .int .i64 0, .map none] 56 := by
      have h := Row.new (w.alloc (.cells A 43)) #[.pointer none, .int .i64 0, .int .i64 0, .map none] 56
      simpa using h
    refine ⟨0, by omega, rfl, (r1.alloc _).alloc _, r2.alloc _, ?_, .inl rfl, (((Below.refl _ _).alloc (Nat.le_refl _) _).alloc (by simp) _).alloc (by simp; omega) _⟩
    have h := Row.new ((w.alloc (.cells A 43)).alloc (.cells #[.pointer none, .int .i64 0, .int .i64 0, .map none] 56)) #[.pointer none, .pointer (some ⟨w.heap.size + 1, 0, none⟩)] 31
    simpa using h
  case round =>
    obtain ⟨k, hk, rfl, hN0⟩ := hrel
    by_cases hlt : k < 2
    · obtain ⟨d, hd, hN⟩ : ∃ d, wr.cell? ⟨w.heap.size + 2, k, none⟩ = some d ∧ Nb w A d wr := by
        match k, hlt with
        | 0, _ => exact ⟨_, hN0.l.cell 0, hN0⟩
        | 1, _ => exact ⟨_, hN0.l.cell 1, hN0.a, hN0.z, hN0.l, .inr ⟨_, rfl, hN0.z⟩, hN0.old⟩
      clear hN0
      have c1 := (hN.a.cell 1).trans h1
      have HR := get_no d (.int .i64 n) wr hN.no
      go_wp2_with fail
      refine HR.mono ?_
      rintro e w' ⟨rfl, rfl⟩
      go_wp2_with fail
      refine wp_region_mix [false, false, false, false, false, false, false, false, false, false, false, false, true, true, false, false, false, false, true, false, false, false, false, true, false, false, false, false, true, false, false, false, false, false, true, false, false] (Nb w A d) (by kernel_rfl) (by kernel_rfl) (hN.next (Below.refl _ _).drew) ?_
      replace hN := hN.next (Below.refl _ _).drew
      simp only []
      refine m_move _ rfl (by rfl) ?_
      simp only [Act.put, List.setIfInBounds_toArray, List.set_cons_zero, List.set_cons_succ]
      refine m_value ?_ (by rfl) (fun w hw => ?_) ?_
      rotate_left
      · go_simp
        with_reducible rfl
      simp only [Act.put, List.setIfInBounds_toArray, List.set_cons_zero, List.set_cons_succ]
      refine m_value ?_ (by rfl) (fun w hw => ?_) ?_
      rotate_left
      · go_simp
        with_reducible rfl
      simp only [Act.put, List.setIfInBounds_toArray, List.set_cons_zero, List.set_cons_succ]
      refine m_move _ rfl (by rfl) ?_
      simp only [Act.put, List.setIfInBounds_toArray, List.set_cons_zero, List.set_cons_succ]
      refine m_move _ rfl (by rfl) ?_
      simp only [Act.put, List.setIfInBounds_toArray, List.set_cons_zero, List.set_cons_succ]
      refine m_value ?_ (by rfl) (fun w hw => ?_) ?_
      rotate_left
      · go_simp
        with_reducible rfl
      simp only [Act.put, List.setIfInBounds_toArray, List.set_cons_zero, List.set_cons_succ]
      refine m_value ?_ (by rfl) (fun w hw => ?_) ?_
      rotate_left
      · go_simp
        with_reducible rfl
      simp only [Act.put, List.setIfInBounds_toArray, List.set_cons_zero, List.set_cons_succ]
      refine m_move _ rfl (by rfl) ?_
      simp only [Act.put, List.setIfInBounds_toArray, List.set_cons_zero, List.set_cons_succ]
      refine m_move _ rfl (by rfl) ?_
      simp only [Act.put, List.setIfInBounds_toArray, List.set_cons_zero, List.set_cons_succ]
      refine m_value ?_ (by rfl) (fun w hw => ?_) ?_
      rotate_left
      · go_simp
        with_reducible rfl
      simp only [Act.put, List.setIfInBounds_toArray, List.set_cons_zero, List.set_cons_succ]
      refine m_value ?_ (by rfl) (fun w hw => ?_) ?_
      rotate_left
      · have hc1 := (hw.a.cell 1).trans h1
        go_simp
        with_reducible rfl
      simp only [Act.put, List.setIfInBounds_toArray, List.set_cons_zero, List.set_cons_succ]
      refine m_load 43 _ rfl (by rfl) w.heap.size A 43 _ rfl (fun w h => h.a) Try.underlying43 rfl hi43 ?_
      simp only [Act.put, List.setIfInBounds_toArray, List.set_cons_zero, List.set_cons_succ]
      refine m_call (by rfl) 12 #[.agg A] (by go_simp) ((HS.out _ hN.old).mono fun e w' ⟨g, c, he, hb⟩ => ⟨_, he, hN.next hb, ?_⟩)
      have hN := hN.next hb
      simp only [Act.put, List.setIfInBounds_toArray, List.set_cons_zero, List.set_cons_succ]
      refine m_call (by rfl) 13 #[d, .int .i64 n, .slice (some ⟨g, 0, none⟩) 256 c] (by go_simp) ((put_no d _ _ _ hN.no).mono fun e w' ⟨he, hw'⟩ => ⟨_, he, by rw [hw']; exact hN, ?_⟩)
      subst hw'
      simp only [Act.put, List.setIfInBounds_toArray, List.set_cons_zero, List.set_cons_succ]
      refine m_value ?_ (by rfl) (fun w hw => ?_) ?_
      rotate_left
      · go_simp
        with_reducible rfl
      simp only [Act.put, List.setIfInBounds_toArray, List.set_cons_zero, List.set_cons_succ]
      refine m_value ?_ (by rfl) (fun w hw => ?_) ?_
      rotate_left
      · go_simp
        with_reducible rfl
      simp only [Act.put, List.setIfInBounds_toArray, List.set_cons_zero, List.set_cons_succ]
      refine m_move _ rfl (by rfl) ?_
      simp only [Act.put, List.setIfInBounds_toArray, List.set_cons_zero, List.set_cons_succ]
      refine m_move _ rfl (by rfl) ?_
      simp only [Act.put, List.setIfInBounds_toArray, List.set_cons_zero, List.set_cons_succ]
      refine m_call (by rfl) 15 #[d] (by go_simp) ((commit_no d _ hN.no).mono fun e w' ⟨he, hw'⟩ => ⟨_, he, by rw [hw']; exact hN, ?_⟩)
      subst hw'
      simp only [Act.put, List.setIfInBounds_toArray, List.set_cons_zero, List.set_cons_succ]
      refine m_value ?_ (by rfl) (fun w hw => ?_) ?_
      rotate_left
      · go_simp
        with_reducible rfl
      simp only [Act.put, List.setIfInBounds_toArray, List.set_cons_zero, List.set_cons_succ]
      refine m_value ?_ (by rfl) (fun w hw => ?_) ?_
      rotate_left
      · go_simp
        with_reducible rfl
      simp only [Act.put, List.setIfInBounds_toArray, List.set_cons_zero, List.set_cons_succ]
      refine m_move _ rfl (by rfl) ?_
      simp only [Act.put, List.setIfInBounds_toArray, List.set_cons_zero, List.set_cons_succ]
      refine m_move _ rfl (by rfl) ?_
      simp only [Act.put, List.setIfInBounds_toArray, List.set_cons_zero, List.set_cons_succ]
      refine m_call (by rfl) 17 #[d] (by go_simp) ((abort_no d _ hN.no).mono fun e w' ⟨he, hw'⟩ => ⟨_, he, by rw [hw']; exact hN, ?_⟩)
      subst hw'
      simp only [Act.put, List.setIfInBounds_toArray, List.set_cons_zero, List.set_cons_succ]
      refine m_value ?_ (by rfl) (fun w hw => ?_) ?_
      rotate_left
      · go_simp
        with_reducible rfl
      simp only [Act.put, List.setIfInBounds_toArray, List.set_cons_zero, List.set_cons_succ]
      refine m_value ?_ (by rfl) (fun w hw => ?_) ?_
      rotate_left
      · go_simp
        with_reducible rfl
      simp only [Act.put, List.setIfInBounds_toArray, List.set_cons_zero, List.set_cons_succ]
      refine m_move _ rfl (by rfl) ?_
      simp only [Act.put, List.setIfInBounds_toArray, List.set_cons_zero, List.set_cons_succ]
      refine m_move _ rfl (by rfl) ?_
      simp only [Act.put, List.setIfInBounds_toArray, List.set_cons_zero, List.set_cons_succ]
      refine m_call (by rfl) 24 #[d] (by go_simp) ((pending_no d _ hN.no).mono fun e w' ⟨he, hw'⟩ => ⟨_, he, by rw [hw']; exact hN, ?_⟩)
      subst hw'
      simp only [Act.put, List.setIfInBounds_toArray, List.set_cons_zero, List.set_cons_succ]
      refine m_value ?_ (by rfl) (fun w hw => ?_) ?_
      rotate_left
      · go_simp
        with_reducible rfl
      simp only [Act.put, List.setIfInBounds_toArray, List.set_cons_zero, List.set_cons_succ]
      refine m_value ?_ (by rfl) (fun w hw => ?_) ?_
      rotate_left
      · go_simp
        with_reducible rfl
      simp only [Act.put, List.setIfInBounds_toArray, List.set_cons_zero, List.set_cons_succ]
      refine m_value ?_ (by rfl) (fun w hw => ?_) ?_
      rotate_left
      · go_simp
        with_reducible rfl
      simp only [Act.put, List.setIfInBounds_toArray, List.set_cons_zero, List.set_cons_succ]
      refine m_move _ rfl (by rfl) ?_
      simp only [Act.put, List.setIfInBounds_toArray, List.set_cons_zero, List.set_cons_succ]
      refine m_move _ rfl (by rfl) ?_
      simp only [Act.put, List.setIfInBounds_toArray, List.set_cons_zero, List.set_cons_succ]
      refine m_call (by rfl) 22 #[d] (by go_simp) ((most_no d _ hN.no).mono fun e w' ⟨he, hw'⟩ => ⟨_, he, by rw [hw']; exact hN, ?_⟩)
      subst hw'
      simp only [Act.put, List.setIfInBounds_toArray, List.set_cons_zero, List.set_cons_succ]
      refine m_value ?_ (by rfl) (fun w hw => ?_) ?_
      rotate_left
      · go_simp
        with_reducible rfl
      simp only [Act.put, List.setIfInBounds_toArray, List.set_cons_zero, List.set_cons_succ]
      refine m_value ?_ (by rfl) (fun w hw => ?_) ?_
      rotate_left
      · go_simp
        with_reducible rfl
      simp only [Act.put, List.setIfInBounds_toArray, List.set_cons_zero, List.set_cons_succ]
      refine m_done ?_
      simp only [Exit.then]
      go_wp2
      go_roundw
      case rel => exact ⟨k + 1, by omega, by go_num, ⟨hN.a, hN.z, hN.l, .inl rfl, hN.old⟩⟩
      case measure => simp [intOf]; omega
    · have H1 := open_no (.pointer none) (.int .i64 0) (.int .i64 2) wr (.inl rfl)
      have hR3 : Row (wr.alloc (.cells #[.slice none 0 0, .slice none 0 0, .slice none 0 0] 64)) wr.heap.size #[.slice none 0 0, .slice none 0 0, .slice none 0 0] 64 := Row.new wr _ 64
      have H2 := open_no (.pointer (some ⟨wr.heap.size, 0, none⟩)) (.int .i64 0) (.int .i64 2) (wr.alloc (.cells #[.slice none 0 0, .slice none 0 0, .slice none 0 0] 64)) (.inr ⟨_, rfl, hR3⟩)
      have hold := hN0.old.alloc hN0.old.size (.cells #[.slice none 0 0, .slice none 0 0, .slice none 0 0] 64)
      clear hR3
      go_wp2_with fail
      refine H1.mono ?_
      rintro e w' ⟨rfl, rfl⟩
      go_wp2_with fail
      refine H2.mono ?_
      rintro e w' ⟨rfl, rfl⟩
      go_wp2
      go_ret
      exact ⟨rfl, hold⟩
end Go.Proofs.Ytlbapnecmhlgmaa
