/- The law AllocReads. -/
import Derived.Test.YthjmmlgcaigdfaaRefRead
import Derived.Test.YthjmmlgcaigdfaaGrow
import Derived.Laws.BytesArg
namespace Go.Proofs.Ythjmmlgcaigdfaa
open Go.RowKit

theorem names_any (w : World) : Calls Try.prog 10 #[] w fun e w' => e = .returned (.bool true) ∧ w' = w := by
  go_enter Try.func10, Try.ntmps10
  go_wp2
  go_ret
  exact ⟨rfl, rfl⟩
/-- 256 bytes as a text. -/
def sStr (f : Nat → Int) : ByteArray := strOfNums ((List.range 256).map f)
theorem sStr_congr (f g : Nat → Int) (h : ∀ i, i < 256 → f i = g i) : sStr f = sStr g := by
  unfold sStr
  congr 1
  apply List.map_congr_left
  intro i hi
  exact h i (by simpa using hi)
theorem conv256 (w : World) (b off cap : Nat) (f : Nat → Int) (h : ∀ i, i < 256 → w.cell? ⟨b, off + i, none⟩ = some (.int .u8 (f i))) : (convert 42 9 (.slice (some ⟨b, off, none⟩) 256 cap)).run Try.prog w = .ok (.string (sStr f)) w := by
  refine run_convert_bytes_arg (P := Try.prog) w 42 5 Try.underlying42 Try.underlying5 b off 256 cap ((List.range 256).map f) (by simp) (fun i hi => ?_) 9 Try.underlying9
  rw [h i hi]; simp [List.getD, hi]
theorem convRow {w : World} {p cap : Nat} {f : Nat → Int} (h : Row w p (arr f) 5) : (convert 42 9 (.slice (some ⟨p, 0, none⟩) 256 cap)).run Try.prog w = .ok (.string (sStr f)) w :=
  conv256 w p 0 cap f (fun i hi => by rw [Nat.zero_add, h.cell i]; exact arr_at f i hi)

/-- What lies in memory: both sets, and the bytes. -/
structure K0 (w : World) (gs n : Nat) (S : Nat → Bool) (gr gi b off : Nat) (f : Nat → Int) (wx : World) : Prop where
  set : SetAt wx gs n S
  ref : RAt wx gr gi n S
  byt : Bs wx (some ⟨b, off, none⟩) b off 256 f
  old : Below w.heap.size w wx
theorem K0.next {w : World} {gs n : Nat} {S : Nat → Bool} {gr gi b off : Nat} {f : Nat → Int} {wx wy : World} (h : K0 w gs n S gr gi b off f wx) (hb : Below wx.heap.size wx wy) : K0 w gs n S gr gi b off f wy :=
  ⟨h.set.below hb, h.ref.below hb, h.byt.belowAll hb, h.old.trans (hb.mono h.old.size)⟩

set_option maxRecDepth 20000 in
set_option maxHeartbeats 4000000 in
theorem law_reads (n0 : Int) (a : Option Addr) (b off len cap : Nat) (f : Nat → Int) (w : World) (hB : Bs w a b off len f) :
    Calls Try.prog 4 #[.slice a len cap, .int .i64 n0] w fun e w' => e = .returned (.bool true) ∧ Below w.heap.size w w' := by
  have HB : Hid _ := hB
  clear hB
  by_cases hn : n0 < 1 ∨ 2048 < n0
  · have H1 := read_bad n0 (.slice a len cap) w hn
    have H2 := rread_bad n0 a len cap w hn
    clear hn
    go_enter Try.func4, Try.ntmps4
    go_wp2_with fail
    refine H1.mono ?_
    rintro e w' ⟨rfl, hw'⟩
    subst w'
    go_wp2_with fail
    refine H2.mono ?_
    rintro e w' ⟨rfl, hw'⟩
    subst w'
    go_wp2_with fail
    refine (names_any _).mono ?_
    rintro e w' ⟨rfl, hw'⟩
    subst w'
    go_wp2_with fail
    refine wp_region_mix [false, false, false, false, false, false, false, false, false, false, false, false, false, false, false, false, false, false, false, false] (fun _ => True) (by kernel_rfl) (by kernel_rfl) trivial ?_
    refine m_move _ rfl (by rfl) ?_
    simp only [Act.put, List.setIfInBounds_toArray, List.set_cons_zero, List.set_cons_succ]
    refine m_value ?_ (by rfl) (fun w hw => ?_) ?_
    rotate_left
    · go_simp
      with_reducible rfl
    simp only [Act.put, List.setIfInBounds_toArray, List.set_cons_zero, List.set_cons_succ]
    refine m_move _ rfl (by rfl) ?_
    simp only [Act.put, List.setIfInBounds_toArray, List.set_cons_zero, List.set_cons_succ]
    refine m_skip (by rfl) ?_
    simp only [Act.put, List.setIfInBounds_toArray, List.set_cons_zero, List.set_cons_succ]
    refine m_skip (by rfl) ?_
    simp only [Act.put, List.setIfInBounds_toArray, List.set_cons_zero, List.set_cons_succ]
    refine m_skip (by rfl) ?_
    simp only [Act.put, List.setIfInBounds_toArray, List.set_cons_zero, List.set_cons_succ]
    refine m_skip (by rfl) ?_
    simp only [Act.put, List.setIfInBounds_toArray, List.set_cons_zero, List.set_cons_succ]
    refine m_skip (by rfl) ?_
    simp only [Act.put, List.setIfInBounds_toArray, List.set_cons_zero, List.set_cons_succ]
    refine m_skip (by rfl) ?_
    simp only [Act.put, List.setIfInBounds_toArray, List.set_cons_zero, List.set_cons_succ]
    refine m_skip (by rfl) ?_
    simp only [Act.put, List.setIfInBounds_toArray, List.set_cons_zero, List.set_cons_succ]
    refine m_skip (by rfl) ?_
    simp only [Act.put, List.setIfInBounds_toArray, List.set_cons_zero, List.set_cons_succ]
    refine m_skip (by rfl) ?_
    simp only [Act.put, List.setIfInBounds_toArray, List.set_cons_zero, List.set_cons_succ]
    refine m_skip (by rfl) ?_
    simp only [Act.put, List.setIfInBounds_toArray, List.set_cons_zero, List.set_cons_succ]
    refine m_skip (by rfl) ?_
    simp only [Act.put, List.setIfInBounds_toArray, List.set_cons_zero, List.set_cons_succ]
    refine m_skip (by rfl) ?_
    simp only [Act.put, List.setIfInBounds_toArray, List.set_cons_zero, List.set_cons_succ]
    refine m_skip (by rfl) ?_
    simp only [Act.put, List.setIfInBounds_toArray, List.set_cons_zero, List.set_cons_succ]
    refine m_skip (by rfl) ?_
    simp only [Act.put, List.setIfInBounds_toArray, List.set_cons_zero, List.set_cons_succ]
    refine m_skip (by rfl) ?_
    simp only [Act.put, List.setIfInBounds_toArray, List.set_cons_zero, List.set_cons_succ]
    refine m_value ?_ (by rfl) (fun w hw => ?_) ?_
    rotate_left
    · go_simp
      with_reducible rfl
    simp only [Act.put, List.setIfInBounds_toArray, List.set_cons_zero, List.set_cons_succ]
    refine m_assign _ rfl (by rfl) ?_
    simp only [Act.put, List.setIfInBounds_toArray, List.set_cons_zero, List.set_cons_succ]
    refine m_done ?_
    simp only [Exit.then]
    go_wp2
    go_ret
    exact ⟨rfl, (Below.refl _ _).drew⟩
  · obtain ⟨n, rfl⟩ : ∃ n : Nat, n0 = n := ⟨n0.toNat, by omega⟩
    have h0 : 1 ≤ n := by omega
    have h1 : n ≤ 2048 := by omega
    clear hn
    by_cases hl : len = 256
    · subst hl
      have ha := HB.out.at' (by omega)
      subst ha
      have H1 := read_ok n b off cap f w h0 h1 HB.out
      go_enter Try.func4, Try.ntmps4
      go_wp2_with fail
      refine H1.mono ?_
      rintro e w1 ⟨hb1, ⟨hy, rfl⟩ | ⟨hy, rfl, hset⟩⟩
      · have H2 := rread_ok n b off cap f w1 h0 h1 (HB.out.belowAll hb1)
        clear H1
        go_wp2_with fail
        refine H2.mono ?_
        rintro e w2 ⟨hb2, ⟨hy2, rfl⟩ | ⟨hy2, gr, gi, rfl, href⟩⟩
        · clear H2 hy hy2
          go_wp2_with fail
          refine (names_any _).mono ?_
          rintro e w' ⟨rfl, hw'⟩
          subst w'
          go_wp2_with fail
          refine wp_region_mix [false, false, false, false, false, false, false, false, false, false, false, false, false, false, false, false, false, false, false, false] (fun _ => True) (by kernel_rfl) (by kernel_rfl) trivial ?_
          refine m_move _ rfl (by rfl) ?_
          simp only [Act.put, List.setIfInBounds_toArray, List.set_cons_zero, List.set_cons_succ]
          refine m_value ?_ (by rfl) (fun w hw => ?_) ?_
          rotate_left
          · go_simp
            with_reducible rfl
          simp only [Act.put, List.setIfInBounds_toArray, List.set_cons_zero, List.set_cons_succ]
          refine m_move _ rfl (by rfl) ?_
          simp only [Act.put, List.setIfInBounds_toArray, List.set_cons_zero, List.set_cons_succ]
          refine m_skip (by rfl) ?_
          simp only [Act.put, List.setIfInBounds_toArray, List.set_cons_zero, List.set_cons_succ]
          refine m_skip (by rfl) ?_
          simp only [Act.put, List.setIfInBounds_toArray, List.set_cons_zero, List.set_cons_succ]
          refine m_skip (by rfl) ?_
          simp only [Act.put, List.setIfInBounds_toArray, List.set_cons_zero, List.set_cons_succ]
          refine m_skip (by rfl) ?_
          simp only [Act.put, List.setIfInBounds_toArray, List.set_cons_zero, List.set_cons_succ]
          refine m_skip (by rfl) ?_
          simp only [Act.put, List.setIfInBounds_toArray, List.set_cons_zero, List.set_cons_succ]
          refine m_skip (by rfl) ?_
          simp only [Act.put, List.setIfInBounds_toArray, List.set_cons_zero, List.set_cons_succ]
          refine m_skip (by rfl) ?_
          simp only [Act.put, List.setIfInBounds_toArray, List.set_cons_zero, List.set_cons_succ]
          refine m_skip (by rfl) ?_
          simp only [Act.put, List.setIfInBounds_toArray, List.set_cons_zero, List.set_cons_succ]
          refine m_skip (by rfl) ?_
          simp only [Act.put, List.setIfInBounds_toArray, List.set_cons_zero, List.set_cons_succ]
          refine m_skip (by rfl) ?_
          simp only [Act.put, List.setIfInBounds_toArray, List.set_cons_zero, List.set_cons_succ]
          refine m_skip (by rfl) ?_
          simp only [Act.put, List.setIfInBounds_toArray, List.set_cons_zero, List.set_cons_succ]
          refine m_skip (by rfl) ?_
          simp only [Act.put, List.setIfInBounds_toArray, List.set_cons_zero, List.set_cons_succ]
          refine m_skip (by rfl) ?_
          simp only [Act.put, List.setIfInBounds_toArray, List.set_cons_zero, List.set_cons_succ]
          refine m_skip (by rfl) ?_
          simp only [Act.put, List.setIfInBounds_toArray, List.set_cons_zero, List.set_cons_succ]
          refine m_skip (by rfl) ?_
          simp only [Act.put, List.setIfInBounds_toArray, List.set_cons_zero, List.set_cons_succ]
          refine m_value ?_ (by rfl) (fun w hw => ?_) ?_
          rotate_left
          · go_simp
            with_reducible rfl
          simp only [Act.put, List.setIfInBounds_toArray, List.set_cons_zero, List.set_cons_succ]
          refine m_assign _ rfl (by rfl) ?_
          simp only [Act.put, List.setIfInBounds_toArray, List.set_cons_zero, List.set_cons_succ]
          refine m_done ?_
          simp only [Exit.then]
          go_wp2
          go_ret
          exact ⟨rfl, (hb1.trans (hb2.mono hb1.size)).drew⟩
        · rw [hy] at hy2
          cases hy2
      · have H2 := rread_ok n b off cap f w1 h0 h1 (HB.out.belowAll hb1)
        clear H1
        have HSET : Hid _ := hset
        clear hset
        go_wp2_with fail
        refine H2.mono ?_
        rintro e w2 ⟨hb2, ⟨hy2, rfl⟩ | ⟨hy2, gr, gi, rfl, href⟩⟩
        · rw [hy] at hy2
          cases hy2
        · obtain ⟨S, hS⟩ : ∃ S, S = bitsOf f := ⟨_, rfl⟩
          obtain ⟨gs, hgs⟩ : ∃ gs, gs = w.heap.size := ⟨_, rfl⟩
          have hK0 : K0 w gs n S gr gi b off f w2.drew := by
            rw [hS, hgs]
            exact ⟨(HSET.out.below hb2).below (Below.refl _ _).drew, href.below (Below.refl _ _).drew, ((HB.out.belowAll hb1).belowAll hb2).belowAll (Below.refl _ _).drew, (hb1.trans (hb2.mono hb1.size)).drew⟩
          have hcut : cut S n = S := cut_all S n hK0.set.top
          obtain ⟨str, hstr⟩ : ∃ str, str = sStr f := ⟨_, rfl⟩
          have he : sStr (byt S) = str := by rw [hstr, hS]; exact sStr_congr _ _ (fun i hi => byt_bitsOf f i hi (HB.out.bd i))
          have HS2 : Hid (∀ wx, Bs wx (some ⟨b, off, none⟩) b off 256 f → (convert 42 9 (.slice (some ⟨b, off, none⟩) 256 cap)).run Try.prog wx = .ok (.string str) wx) := fun wx hx => by rw [hstr]; exact conv256 wx b off cap f hx.cell
          have HS1 : Hid (∀ wx p, Row wx p (arr (byt S)) 5 → (convert 42 9 (.slice (some ⟨p, 0, none⟩) 256 256)).run Try.prog wx = .ok (.string str) wx) := fun wx p hx => by rw [convRow hx, he]
          have HBY : Hid (∀ wx, SetAt wx gs n S → Calls Try.prog 19 #[.pointer (some ⟨gs, 0, none⟩)] wx fun e w' => ∃ p, e = .returned (.slice (some ⟨p, 0, none⟩) 256 256) ∧ Row w' p (arr (byt S)) 5 ∧ Below wx.heap.size wx w') := fun wx hx => (bytes_ok hx).mono fun e w' ⟨h1, h2⟩ => ⟨_, h1, by rw [h2]; exact Row.new _ _ 5, by rw [h2]; exact (Below.refl _ _).alloc (Nat.le_refl _) _⟩
          have HRB : Hid (∀ wx, RAt wx gr gi n S → Calls Try.prog 22 #[.pointer (some ⟨gr, 0, none⟩)] wx fun e w' => ∃ p, e = .returned (.slice (some ⟨p, 0, none⟩) 256 256) ∧ Row w' p (arr (byt S)) 5 ∧ Below wx.heap.size wx w') := fun wx hx => (rbytes_ok hx).mono fun e w' ⟨h1, h2, h3⟩ => ⟨_, h1, by rw [hcut] at h2; exact h2, h3⟩
          rw [← hgs]
          clear H2 hy hy2 HSET href hb1 hb2 hcut he hstr hS hgs HB
          generalize arr (byt S) = A at *
          go_wp2_with fail
          refine (names_any _).mono ?_
          rintro e w' ⟨rfl, hw'⟩
          subst w'
          go_wp2_with fail
          refine wp_region_grow [(false, 0), (false, 1), (false, 2), (false, 3), (false, 6), (true, 4), (false, 5), (true, 7), (false, 8), (false, 9), (false, 10), (false, 11), (false, 14), (false, 15), (true, 12), (false, 13), (false, 16), (false, 17), (false, 18), (false, 19)] (K0 w gs n S gr gi b off f) (by kernel_rfl) (by kernel_rfl) hK0 ?_
          refine g_move (some 35) _ rfl rfl rfl (by rfl) ?_
          simp only [Act.put, List.setIfInBounds_toArray, List.set_cons_zero, List.set_cons_succ]
          refine g_value (some 36) ?_ rfl rfl (by rfl) (fun w hw => ?_) ?_
          rotate_left
          · go_simp
            with_reducible rfl
          simp only [Act.put, List.setIfInBounds_toArray, List.set_cons_zero, List.set_cons_succ]
          refine g_move (some 37) _ rfl rfl rfl (by rfl) ?_
          simp only [Act.put, List.setIfInBounds_toArray, List.set_cons_zero, List.set_cons_succ]
          refine g_move (some 38) _ rfl rfl rfl (by rfl) ?_
          simp only [Act.put, List.setIfInBounds_toArray, List.set_cons_zero, List.set_cons_succ]
          refine g_move (some 41) _ rfl rfl rfl (by rfl) ?_
          simp only [Act.put, List.setIfInBounds_toArray, List.set_cons_zero, List.set_cons_succ]
          refine g_call (some 39) rfl rfl (by rfl) 19 #[.pointer (some ⟨gs, 0, none⟩)] (by go_simp) ((HBY.out _ hK0.set).mono fun e w3 ⟨p1, he, hr3, hb3⟩ => ⟨_, he, fun wx => K0 w gs n S gr gi b off f wx ∧ Row wx p1 A 5, fun _ h => h.1, ⟨hK0.next hb3, hr3⟩, ?_⟩)
          have hK1 := hK0.next hb3
          simp only [Act.put, List.setIfInBounds_toArray, List.set_cons_zero, List.set_cons_succ]
          refine g_convert (some 40) 42 9 _ (.string str) rfl rfl rfl (by rfl) (fun wx hx => HS1.out wx p1 hx.2) ?_
          simp only [Act.put, List.setIfInBounds_toArray, List.set_cons_zero, List.set_cons_succ]
          refine g_call (some 42) rfl rfl (by rfl) 22 #[.pointer (some ⟨gr, 0, none⟩)] (by go_simp) ((HRB.out _ hK1.ref).mono fun e w4 ⟨p2, he, hr4, hb4⟩ => ⟨_, he, fun wx => (K0 w gs n S gr gi b off f wx ∧ Row wx p1 A 5) ∧ Row wx p2 A 5, fun _ h => h.1, ⟨⟨hK1.next hb4, hr3.below hb4 hr3.lt⟩, hr4⟩, ?_⟩)
          have hK2 := hK1.next hb4
          simp only [Act.put, List.setIfInBounds_toArray, List.set_cons_zero, List.set_cons_succ]
          refine g_convert (some 43) 42 9 _ (.string str) rfl rfl rfl (by rfl) (fun wx hx => HS1.out wx p2 hx.2) ?_
          simp only [Act.put, List.setIfInBounds_toArray, List.set_cons_zero, List.set_cons_succ]
          refine g_value (some 44) ?_ rfl rfl (by rfl) (fun w hw => ?_) ?_
          rotate_left
          · go_simp
            with_reducible rfl
          simp only [Act.put, List.setIfInBounds_toArray, List.set_cons_zero, List.set_cons_succ]
          refine g_move (some 45) _ rfl rfl rfl (by rfl) ?_
          simp only [Act.put, List.setIfInBounds_toArray, List.set_cons_zero, List.set_cons_succ]
          refine g_move (some 46) _ rfl rfl rfl (by rfl) ?_
          simp only [Act.put, List.setIfInBounds_toArray, List.set_cons_zero, List.set_cons_succ]
          refine g_move (some 49) _ rfl rfl rfl (by rfl) ?_
          simp only [Act.put, List.setIfInBounds_toArray, List.set_cons_zero, List.set_cons_succ]
          refine g_convert (some 50) 42 9 _ (.string str) rfl rfl rfl (by rfl) (fun wx hx => HS2.out wx hx.1.1.byt) ?_
          simp only [Act.put, List.setIfInBounds_toArray, List.set_cons_zero, List.set_cons_succ]
          refine g_call (some 47) rfl rfl (by rfl) 22 #[.pointer (some ⟨gr, 0, none⟩)] (by go_simp) ((HRB.out _ hK2.ref).mono fun e w5 ⟨p3, he, hr5, hb5⟩ => ⟨_, he, fun wx => ((K0 w gs n S gr gi b off f wx ∧ Row wx p1 A 5) ∧ Row wx p2 A 5) ∧ Row wx p3 A 5, fun _ h => h.1, ⟨⟨⟨hK2.next hb5, (hr3.below hb4 hr3.lt).below hb5 (hr3.below hb4 hr3.lt).lt⟩, hr4.below hb5 hr4.lt⟩, hr5⟩, ?_⟩)
          have hK3 := hK2.next hb5
          simp only [Act.put, List.setIfInBounds_toArray, List.set_cons_zero, List.set_cons_succ]
          refine g_convert (some 48) 42 9 _ (.string str) rfl rfl rfl (by rfl) (fun wx hx => HS1.out wx p3 hx.2) ?_
          simp only [Act.put, List.setIfInBounds_toArray, List.set_cons_zero, List.set_cons_succ]
          refine g_value (some 51) ?_ rfl rfl (by rfl) (fun w hw => ?_) ?_
          rotate_left
          · go_simp
            with_reducible rfl
          simp only [Act.put, List.setIfInBounds_toArray, List.set_cons_zero, List.set_cons_succ]
          refine g_value (some 52) ?_ rfl rfl (by rfl) (fun w hw => ?_) ?_
          rotate_left
          · go_simp
            with_reducible rfl
          simp only [Act.put, List.setIfInBounds_toArray, List.set_cons_zero, List.set_cons_succ]
          refine g_value (some 53) ?_ rfl rfl (by rfl) (fun w hw => ?_) ?_
          rotate_left
          · go_simp
            with_reducible rfl
          simp only [Act.put, List.setIfInBounds_toArray, List.set_cons_zero, List.set_cons_succ]
          refine g_assign (some 4) _ rfl rfl rfl (by rfl) ?_
          simp only [Act.put, List.setIfInBounds_toArray, List.set_cons_zero, List.set_cons_succ]
          refine g_done ?_
          simp only [Exit.then]
          go_wp2
          go_ret
          exact ⟨rfl, hK3.old⟩
    · have H1 := read_len n a len cap w h0 h1 hl
      go_enter Try.func4, Try.ntmps4
      go_wp2_with fail
      refine H1.mono ?_
      rintro e w1 ⟨rfl, hb1⟩
      have H2 := rread_len n a len cap w1 h0 h1 hl
      clear H1
      go_wp2_with fail
      refine H2.mono ?_
      rintro e w2 ⟨rfl, hb2⟩
      clear H2
      go_wp2_with fail
      refine (names_any _).mono ?_
      rintro e w' ⟨rfl, hw'⟩
      subst w'
      go_wp2_with fail
      refine wp_region_mix [false, false, false, false, false, false, false, false, false, false, false, false, false, false, false, false, false, false, false, false] (fun _ => True) (by kernel_rfl) (by kernel_rfl) trivial ?_
      refine m_move _ rfl (by rfl) ?_
      simp only [Act.put, List.setIfInBounds_toArray, List.set_cons_zero, List.set_cons_succ]
      refine m_value ?_ (by rfl) (fun w hw => ?_) ?_
      rotate_left
      · go_simp
        with_reducible rfl
      simp only [Act.put, List.setIfInBounds_toArray, List.set_cons_zero, List.set_cons_succ]
      refine m_move _ rfl (by rfl) ?_
      simp only [Act.put, List.setIfInBounds_toArray, List.set_cons_zero, List.set_cons_succ]
      refine m_skip (by rfl) ?_
      simp only [Act.put, List.setIfInBounds_toArray, List.set_cons_zero, List.set_cons_succ]
      refine m_skip (by rfl) ?_
      simp only [Act.put, List.setIfInBounds_toArray, List.set_cons_zero, List.set_cons_succ]
      refine m_skip (by rfl) ?_
      simp only [Act.put, List.setIfInBounds_toArray, List.set_cons_zero, List.set_cons_succ]
      refine m_skip (by rfl) ?_
      simp only [Act.put, List.setIfInBounds_toArray, List.set_cons_zero, List.set_cons_succ]
      refine m_skip (by rfl) ?_
      simp only [Act.put, List.setIfInBounds_toArray, List.set_cons_zero, List.set_cons_succ]
      refine m_skip (by rfl) ?_
      simp only [Act.put, List.setIfInBounds_toArray, List.set_cons_zero, List.set_cons_succ]
      refine m_skip (by rfl) ?_
      simp only [Act.put, List.setIfInBounds_toArray, List.set_cons_zero, List.set_cons_succ]
      refine m_skip (by rfl) ?_
      simp only [Act.put, List.setIfInBounds_toArray, List.set_cons_zero, List.set_cons_succ]
      refine m_skip (by rfl) ?_
      simp only [Act.put, List.setIfInBounds_toArray, List.set_cons_zero, List.set_cons_succ]
      refine m_skip (by rfl) ?_
      simp only [Act.put, List.setIfInBounds_toArray, List.set_cons_zero, List.set_cons_succ]
      refine m_skip (by rfl) ?_
      simp only [Act.put, List.setIfInBounds_toArray, List.set_cons_zero, List.set_cons_succ]
      refine m_skip (by rfl) ?_
      simp only [Act.put, List.setIfInBounds_toArray, List.set_cons_zero, List.set_cons_succ]
      refine m_skip (by rfl) ?_
      simp only [Act.put, List.setIfInBounds_toArray, List.set_cons_zero, List.set_cons_succ]
      refine m_skip (by rfl) ?_
      simp only [Act.put, List.setIfInBounds_toArray, List.set_cons_zero, List.set_cons_succ]
      refine m_skip (by rfl) ?_
      simp only [Act.put, List.setIfInBounds_toArray, List.set_cons_zero, List.set_cons_succ]
      refine m_value ?_ (by rfl) (fun w hw => ?_) ?_
      rotate_left
      · go_simp
        with_reducible rfl
      simp only [Act.put, List.setIfInBounds_toArray, List.set_cons_zero, List.set_cons_succ]
      refine m_assign _ rfl (by rfl) ?_
      simp only [Act.put, List.setIfInBounds_toArray, List.set_cons_zero, List.set_cons_succ]
      refine m_done ?_
      simp only [Exit.then]
      go_wp2
      go_ret
      exact ⟨rfl, (hb1.trans (hb2.mono hb1.size)).drew⟩
end Go.Proofs.Ythjmmlgcaigdfaa
