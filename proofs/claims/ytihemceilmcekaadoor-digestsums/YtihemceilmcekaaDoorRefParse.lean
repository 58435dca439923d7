/- The walk of the document's own Parse; and Parse beside it, whatever the text. -/
import Derived.Test.YtihemceilmcekaaDoorRefShort
import Derived.Test.YtihemceilmcekaaDoorRefDecode
import Derived.Test.YtihemceilmcekaaDoorPlain
import Derived.Test.YtihemceilmcekaaDoorTexts
namespace Go.Proofs.YtihemceilmcekaaDoor
open Go.RowKit Math

theorem results15 : Tryd.f15.results = #[.cell 2 23, .tmp 3] := by kernel_rfl

set_option maxHeartbeats 400000 in
theorem refParse_bad (s : ByteArray) (w : World)
    (HD : ∀ wr, Below w.heap.size w wr → Calls Tryd.prog 26 #[.string s] wr fun e w' => e = .returned (.tuple #[.slice none 0 0, .int .i64 10]) ∧ Below wr.heap.size wr w') :
    Calls Tryd.prog 15 #[.string s] w fun e w' => e = .returned (.tuple #[.agg (arr (fun _ => 0) 32), .int .i64 10]) ∧ Below w.heap.size w w' := by
  rw [← zeros32_arr]
  obtain ⟨Z, hZ⟩ : ∃ Z, Z = zeros32 := ⟨_, rfl⟩
  have hZs : Z.size = 32 := by rw [hZ]; rfl
  have hZo : Z.all (·.oneCell') = true := by rw [hZ]; exact zeros32_one
  rw [← hZ]
  have hb0 : Below w.heap.size w ((w.alloc (.cells Z 23)).alloc (.cells Z 23)) := ((Below.refl _ _).alloc (Nat.le_refl _) _).alloc (by simp) _
  have HD1 := HD _ hb0
  clear HD
  unfold zeros32 at hZ
  go_enter Tryd.func15, Tryd.ntmps15
  go_wp2_with fail
  rw [← hZ]
  refine HD1.mono ?_
  rintro e w1 ⟨rfl, hb1⟩
  clear HD1 hZ
  have hR : Row w1 w.heap.size Z 23 := ((Row.new w Z 23).alloc _).below hb1 (by simp; omega)
  have hD : Row w1 (w.heap.size + 1) Z 23 := by
    have h := Row.new (w.alloc (.cells Z 23)) Z 23
    exact Row.below (by simpa using h) hb1 (by simp)
  have hbb : Below w.heap.size w w1 := hb0.trans (hb1.mono hb0.size)
  have hZi : (Tryd.prog.info? 23).map (·.size) = some Z.size := by rw [hZs]; exact info23
  go_wp2_with (first | refine wpList_load_row rfl 23 _ rfl _ rfl 23 Z (0, 0) _ hD Tryd.underlying23 rfl hZi ?_ | refine wpList_store_row rfl 23 _ _ rfl w.heap.size Z rfl rfl 23 Z hR hZi rfl hZo ?_)
  refine bodyPost_ret (results_cell_tmp results15 _ _ w.heap.size 23 Z _ rfl hR.setRow Tryd.underlying23 rfl hZi) rfl ⟨rfl, below_setRow hbb (Nat.le_refl _) _⟩

set_option maxHeartbeats 400000 in
theorem refParse_long (s : ByteArray) (q : Nat) (w : World) (hq : q ≠ 32)
    (HD : ∀ wr, Below w.heap.size w wr → Calls Tryd.prog 26 #[.string s] wr fun e w' => ∃ a, e = .returned (.tuple #[.slice a q q, .int .i64 0]) ∧ Below wr.heap.size wr w') :
    Calls Tryd.prog 15 #[.string s] w fun e w' => e = .returned (.tuple #[.agg (arr (fun _ => 0) 32), .int .i64 10]) ∧ Below w.heap.size w w' := by
  rw [← zeros32_arr]
  obtain ⟨Z, hZ⟩ : ∃ Z, Z = zeros32 := ⟨_, rfl⟩
  have hZs : Z.size = 32 := by rw [hZ]; rfl
  have hZo : Z.all (·.oneCell') = true := by rw [hZ]; exact zeros32_one
  rw [← hZ]
  have hb0 : Below w.heap.size w ((w.alloc (.cells Z 23)).alloc (.cells Z 23)) := ((Below.refl _ _).alloc (Nat.le_refl _) _).alloc (by simp) _
  have HD1 := HD _ hb0
  clear HD
  unfold zeros32 at hZ
  go_enter Tryd.func15, Tryd.ntmps15
  go_wp2_with fail
  rw [← hZ]
  refine HD1.mono ?_
  rintro e w1 ⟨a, rfl, hb1⟩
  clear HD1 hZ
  have hR : Row w1 w.heap.size Z 23 := ((Row.new w Z 23).alloc _).below hb1 (by simp; omega)
  have hD : Row w1 (w.heap.size + 1) Z 23 := by
    have h := Row.new (w.alloc (.cells Z 23)) Z 23
    exact Row.below (by simpa using h) hb1 (by simp)
  have hbb : Below w.heap.size w w1 := hb0.trans (hb1.mono hb0.size)
  have hZi : (Tryd.prog.info? 23).map (·.size) = some Z.size := by rw [hZs]; exact info23
  go_wp2_with (first | refine wpList_load_row rfl 23 _ rfl _ rfl 23 Z (0, 0) _ hD Tryd.underlying23 rfl hZi ?_ | refine wpList_store_row rfl 23 _ _ rfl w.heap.size Z rfl rfl 23 Z hR hZi rfl hZo ?_)
  refine bodyPost_ret (results_cell_tmp results15 _ _ w.heap.size 23 Z _ rfl hR.setRow Tryd.underlying23 rfl hZi) rfl ⟨rfl, below_setRow hbb (Nat.le_refl _) _⟩

/-- The first k bytes of f, and zeros. -/
def upto (f : Nat → Int) (k : Nat) : Nat → Int := fun i => if i < k then f i else 0

set_option maxHeartbeats 400000 in
theorem refParse_ok (s : ByteArray) (f : Nat → Int) (w : World)
    (HD : ∀ wr, Below w.heap.size w wr → Calls Tryd.prog 26 #[.string s] wr fun e w' => e = .returned (.tuple #[.slice (some ⟨wr.heap.size, 0, none⟩) 32 32, .int .i64 0]) ∧ Below wr.heap.size wr w' ∧ w'.rowIs wr.heap.size 5 32 (fun j => .int .u8 (f j))) :
    Calls Tryd.prog 15 #[.string s] w fun e w' => e = .returned (.tuple #[.agg (arr f 32), .int .i64 0]) ∧ Below w.heap.size w w' := by
  obtain ⟨Z, hZ⟩ : ∃ Z, Z = zeros32 := ⟨_, rfl⟩
  have hZs : Z.size = 32 := by rw [hZ]; rfl
  have hZa : Z = arr (upto f 0) 32 := by rw [hZ, zeros32_arr]; exact arr_congr _ _ _ (fun i _ => by simp [upto])
  have hone := arr_one f 32
  have hAs := arr_size f 32
  have hA : Hid (arr (upto f 32) 32 = arr f 32) := arr_congr _ _ _ (fun i hi => by simp [upto, hi])
  generalize arr f 32 = A at *
  have hi : (Tryd.prog.info? 23).map (·.size) = some A.size := by rw [hAs]; exact info23
  have hb0 : Below w.heap.size w ((w.alloc (.cells Z 23)).alloc (.cells Z 23)) := ((Below.refl _ _).alloc (Nat.le_refl _) _).alloc (by simp) _
  have HD1 := HD _ hb0
  clear HD
  unfold zeros32 at hZ
  go_enter Tryd.func15, Tryd.ntmps15
  go_wp2_with fail
  rw [← hZ]
  refine HD1.mono ?_
  rintro e w1 ⟨rfl, hb1, hrow⟩
  clear HD1 hZ
  have hsz : ((w.alloc (.cells Z 23)).alloc (.cells Z 23)).heap.size = w.heap.size + 2 := by simp
  have hR : Row w1 w.heap.size Z 23 := ((Row.new w Z 23).alloc _).below hb1 (by simp; omega)
  have hD : Row w1 (w.heap.size + 1) (arr (upto f 0) 32) 23 := by
    have h := Row.new (w.alloc (.cells Z 23)) Z 23
    rw [← hZa]
    exact Row.below (by simpa using h) hb1 (by simp)
  have hbb : Below w.heap.size w w1 := hb0.trans (hb1.mono hb0.size)
  rw [hsz] at hrow ⊢
  clear hb0 hb1 hZa
  go_wp2
  go_loopw [7] (fun i wr => ∃ k : Nat, k ≤ 32 ∧ i = .int .i64 k ∧ Row wr w.heap.size Z 23 ∧ Row wr (w.heap.size + 1) (arr (upto f k) 32) 23 ∧ wr.rowIs (w.heap.size + 2) 5 32 (fun j => .int .u8 (f j)) ∧ Below w.heap.size w wr) (fun i _ => 32 - (intOf i).toNat)
  case atStart => exact ⟨0, Nat.zero_le _, rfl, hR, hD, hrow, hbb⟩
  case round =>
    clear hR hD hrow hbb
    obtain ⟨k, hk, rfl, hR, hD, hrow, hbb⟩ := hrel
    by_cases hlt : k < 32
    · have c0 := hrow.cell hlt
      have c1 := hD.cell k
      rw [arr_at _ _ _ hlt] at c1
      have z1 := hD.frozen k
      go_wp2
      go_roundw
      case rel =>
        refine ⟨k + 1, by omega, by go_num, hR.setCell_other (by omega) _, ?_, ?_, hbb.setCell (by simp) _⟩
        · have h := hD.setCell (i := k) (.int .u8 (f k))
          rw [arr_set (upto f k) (upto f (k + 1)) 32 k (f k) (fun i hi => by
            unfold upto
            by_cases e : i = k
            · rw [if_pos e, if_pos (by omega), e]
            · rw [if_neg e]
              by_cases h : i < k
              · rw [if_pos h, if_pos (by omega)]
              · rw [if_neg h, if_neg (by omega)])] at h
          exact h
        · exact hrow.of_block (heap_setCell_other _ _ _ _ (by simp))
      case measure => simp [intOf]; omega
    · obtain rfl : k = 32 := by omega
      rw [hA.out] at hD
      go_wp2_with (first | refine wpList_load_row rfl 23 _ rfl _ rfl 23 A (0, 0) _ hD Tryd.underlying23 rfl hi ?_ | refine wpList_store_row rfl 23 _ _ rfl w.heap.size A rfl rfl 23 Z hR hi (hZs.trans hAs.symm) hone ?_)
      refine bodyPost_ret (results_cell_tmp results15 _ _ w.heap.size 23 A _ rfl hR.setRow Tryd.underlying23 rfl hi) rfl ⟨rfl, below_setRow hbb (Nat.le_refl _) _⟩

/-- The first place where something does not hold, or none. -/
theorem first_bad (P : Nat → Prop) (n : Nat) : (∀ k, k < n → P k) ∨ ∃ m, m < n ∧ (∀ k, k < m → P k) ∧ ¬ P m := by
  induction n with
  | zero => exact .inl (fun k hk => absurd hk (by omega))
  | succ n ih =>
    rcases ih with h | ⟨m, h1, h2, h3⟩
    · by_cases hp : P n
      · exact .inl (fun k hk => by
          by_cases e : k = n
          · subst e; exact hp
          · exact h k (by omega))
      · exact .inr ⟨n, by omega, h, hp⟩
    · exact .inr ⟨m, by omega, h2, h3⟩

theorem choose_signs (s : ByteArray) (m : Nat) (h : ∀ k, k < m → ∃ v, v < 32 ∧ ∀ hk : k < s.size, sg v = (s[k].toNat : Int)) : ∃ vs : Nat → Nat, (∀ k, vs k < 32) ∧ ∀ k, (hk : k < s.size) → k < m → sg (vs k) = (s[k].toNat : Int) := by
  refine ⟨fun k => if hk : k < m then Classical.choose (h k hk) else 0, fun k => ?_, fun k hks hk => ?_⟩
  · by_cases hk : k < m
    · simp only [hk, dite_true]; exact (Classical.choose_spec (h k hk)).1
    · simp only [hk, dite_false]; decide
  · simp only [hk, dite_true]
    exact (Classical.choose_spec (h k hk)).2 hks

/-- Parse and the document's own answer alike, whatever the text. -/
theorem parse_pair (s : ByteArray) (w : World) (hT : Tab w) (hn : s.size ≤ 140737488351232) : ∃ (g : Nat → Int) (c : Int),
    (∀ wr, Below w.heap.size w wr → Calls Tryd.prog 14 #[.string s] wr fun e w' => e = .returned (.tuple #[.agg (arr g 32), .int .i64 c]) ∧ Below wr.heap.size wr w') ∧
    (∀ wr, Below w.heap.size w wr → Calls Tryd.prog 15 #[.string s] wr fun e w' => e = .returned (.tuple #[.agg (arr g 32), .int .i64 c]) ∧ Below wr.heap.size wr w') := by
  have hp := hT.pos
  have tab : ∀ {wr wx : World}, Below w.heap.size w wr → Below wr.heap.size wr wx → Tab wx := fun h1 h2 => hT.below (h1.trans (h2.mono h1.size)) hp
  obtain ⟨Q, l, hQ, hl⟩ : ∃ Q l, 5 * s.size = 8 * Q + l ∧ l < 8 := ⟨5 * s.size / 8, 5 * s.size % 8, by omega, by omega⟩
  obtain ⟨N, hN1, hN2⟩ : ∃ N, 5 * N ≤ 8 * Q + 4 ∧ 8 * Q ≤ 5 * N := ⟨(8 * Q + 4) / 5, by omega, by omega⟩
  rcases first_bad (fun k => ∃ v, v < 32 ∧ ∀ hk : k < s.size, sg v = (s[k].toNat : Int)) s.size with hall | ⟨m, hm, hbefore, hbad⟩
  · obtain ⟨vs, h32, hvs⟩ := choose_signs s s.size hall
    have hvs' : ∀ k, (hk : k < s.size) → sg (vs k) = (s[k].toNat : Int) := fun k hk => hvs k hk hk
    obtain ⟨h, hh⟩ : ∃ h, h = bitAt 5 (fun i => (vs i : Int)) := ⟨_, rfl⟩
    obtain ⟨f, hf⟩ : ∃ f : Nat → Int, ∀ j, f j = if j < Q then val h (8 * j) 8 else 0 := ⟨fun j => if j < Q then val h (8 * j) 8 else 0, fun _ => rfl⟩
    have hsame := same_iff s vs hvs' h32 h hh Q l N hQ hl f hf hN1 hN2
    have HR := fun (wr : World) => refDecode_core s vs s.size Q wr hn (Nat.le_refl _) (by omega) (by omega) (fun k hk _ => hvs' k hk) h32 (fun hc => absurd hc (by omega)) h hh f hf N hN1 hN2
    by_cases hok : l < 5 ∧ val h (8 * Q) l = 0
    · have hs1 := hsame.2 hok
      have hraw : row h 8 Q = (arr f Q).toList := by
        simp only [row, arr]
        apply List.map_congr_left
        intro j hj
        rw [List.mem_range] at hj
        simp [hf, hj]
      have D1 : ∀ {wr : World}, Below w.heap.size w wr → ∀ wx, Below wr.heap.size wr wx → Calls Tryd.prog 25 #[.string s] wx fun e w' => ∃ v, e = .returned (.tuple #[v, .int .i64 0]) ∧ Below wx.heap.size wx w' ∧ w'.ownsRow wx.heap.size 5 1 v Q (arr f Q).toList := fun hb wx hx => by
        refine (decode_any s vs wx (tab hb hx) (by omega) hvs' h32).mono ?_
        rintro e w' ⟨q', l', hq', hl', hb', h'⟩
        obtain rfl : q' = Q := by omega
        obtain rfl : l' = l := by omega
        rw [← hh] at h'
        rcases h' with ⟨_, _, v, he, hown⟩ | ⟨hno, _⟩
        · rw [hraw] at hown
          exact ⟨v, he, hb', hown⟩
        · exact absurd hok hno
      have D2 : ∀ wx : World, Calls Tryd.prog 26 #[.string s] wx fun e w' => e = .returned (.tuple #[.slice (some ⟨wx.heap.size, 0, none⟩) Q Q, .int .i64 0]) ∧ Below wx.heap.size wx w' ∧ w'.rowIs wx.heap.size 5 Q (fun j => .int .u8 (f j)) := fun wx => by
        refine (HR wx).mono ?_
        rintro e w' ⟨hb', h1 | ⟨_, _, he, hrow⟩ | ⟨_, hne, _⟩⟩
        · exact absurd h1.1 (by omega)
        · exact ⟨he, hb', hrow⟩
        · rw [hs1] at hne; cases hne
      by_cases hq : Q = 32
      · subst hq
        exact ⟨f, 0, fun wr hb => parse_ok s f wr (D1 hb), fun wr hb => refParse_ok s f wr (fun wx _ => D2 wx)⟩
      · exact ⟨fun _ => 0, 10, fun wr hb => parse_long s Q _ wr hq (by omega) (D1 hb), fun wr hb => refParse_long s Q wr hq (fun wx _ => (D2 wx).mono fun e w' ⟨h1, h2, _⟩ => ⟨_, h1, h2⟩)⟩
    · have hs1 : ((strOfNums (enc (bitAt 8 f) N)).toList == s.toList) = false := by
        cases hc : ((strOfNums (enc (bitAt 8 f) N)).toList == s.toList) with
        | true => exact absurd (hsame.1 hc) hok
        | false => rfl
      refine ⟨fun _ => 0, 10, fun wr hb => parse_bad s wr (fun wx hx => ?_), fun wr hb => refParse_bad s wr (fun wx hx => ?_)⟩
      · refine (decode_any s vs wx (tab hb hx) (by omega) hvs' h32).mono ?_
        rintro e w' ⟨q', l', hq', hl', hb', h'⟩
        obtain rfl : q' = Q := by omega
        obtain rfl : l' = l := by omega
        rw [← hh] at h'
        rcases h' with ⟨h1, h2, _⟩ | ⟨_, he⟩
        · exact absurd ⟨h1, h2⟩ hok
        · exact ⟨he, hb'⟩
      · refine (HR wx).mono ?_
        rintro e w' ⟨hb', h1 | ⟨_, he1, _⟩ | ⟨_, _, he⟩⟩
        · exact absurd h1.1 (by omega)
        · rw [hs1] at he1; cases he1
        · exact ⟨he, hb'⟩
  · obtain ⟨vs, h32, hvs⟩ := choose_signs s m hbefore
    have hno : ∀ k, k < 32 → sg k ≠ (s[m].toNat : Int) := fun k hk e => hbad ⟨k, hk, fun _ => e⟩
    refine ⟨fun _ => 0, 10, fun wr hb => parse_bad s wr (fun wx hx => ?_), fun wr hb => refParse_bad s wr (fun wx hx => ?_)⟩
    · exact decode_bad s vs m wx (tab hb hx) (by omega) hm (fun k hk hkm => ⟨h32 k, hvs k hk hkm⟩) hno
    · refine (refDecode_core s vs m Q wx hn (by omega) (by omega) (by omega) hvs h32 (fun _ => hno) _ rfl (fun j => if j < Q then val (bitAt 5 (fun i => (vs i : Int))) (8 * j) 8 else 0) (fun _ => rfl) N hN1 hN2).mono ?_
      rintro e w' ⟨hb', ⟨_, he⟩ | ⟨h1, _⟩ | ⟨h1, _⟩⟩
      · exact ⟨he, hb'⟩
      · exact absurd h1 (by omega)
      · exact absurd h1 (by omega)
end Go.Proofs.YtihemceilmcekaaDoor
