/- The walk of the document's own Sum. -/
import Derived.Test.YtppgidmeeaodkaaGreatDoorS2RefOver
import Derived.Laws.AppendOwnNone
namespace Go.Proofs.YtppgidmeeaodkaaGreatDoor.S2
set_option maxRecDepth 20000
open Go.RowKit Num

theorem own_grown {w wr w1 : World} {v : Value} {n : Nat} {xs : List Value} (hown : wr.ownsRow w.heap.size 5 1 v n xs) (hb : Below w.heap.size w wr) (hgrow : wr.grownBy w1 v.ownBlock) : Below w.heap.size w w1 := by
  refine hb.grown hgrow hb.size (fun r hr => ?_)
  obtain ⟨_, ⟨rfl, _⟩ | ⟨g', cap, cur, rfl, hle, _⟩⟩ := hown
  · cases hr
  · simp [Value.ownBlock] at hr; omega

theorem ownsRow_below {w w' : World} {B n : Nat} {v : Value} {xs : List Value} (h : w.ownsRow B 5 1 v n xs) (hb : Below w.heap.size w w') : w'.ownsRow B 5 1 v n xs := by
  obtain ⟨h1, h2 | ⟨g, cap, cur, e1, e2, e3, e4⟩⟩ := h
  · exact ⟨h1, .inl h2⟩
  · refine ⟨h1, .inr ⟨g, cap, cur, e1, e2, ?_, e4⟩⟩
    obtain ⟨hlt, _⟩ := Array.getElem?_eq_some_iff.1 e3
    exact (hb.block g hlt).trans e3

/-- 'append(v, xs...)', v the call's own, xs bytes that came in, nil or not. -/
theorem wpList_append_bytes {w : World} {ops : Array Oper} {rest : List Oper} {o : Oper} {act : Act} {Q : Exit → Act → World → Prop} (hgd : o.guard = none) (s x : Operand)
    (ho : o.op = .call { callee := .builtin .append, args := #[s, x], argTypes := #[36, 36] }) (base : Nat) (v : Value) (n : Nat) (xs : List Value) (hs : act.eval s = v) (hown : w.ownsRow base 5 1 v n xs)
    (a : Option Addr) (b off len cap : Nat) (f : Nat → Int) (hx : act.eval x = .slice a len cap) (hB : Bs w a b off len f) (hnone : a = none → len = 0 ∧ cap = 0) (hl : n + len ≤ 140737488351232) (hbase : base ≤ w.heap.size)
    (h : ∀ v' w', w'.ownsRow base 5 1 v' (n + len) (xs ++ (arr f len).toList) → w.grownBy w' v.ownBlock → wpList Tryz.prog ops Q rest (act.put o.dst v') w') : wpList Tryz.prog ops Q (o :: rest) act w := by
  obtain ⟨i0, hi, hz0, hz1, hz2⟩ := info_parts Tryz.info5
  cases a with
  | none =>
    obtain ⟨rfl, rfl⟩ := hnone rfl
    exact wpList_append_own_none hgd s x 36 ho base 5 i0 1 Tryz.underlying36 hi v n xs hs hown hx (h v w (by simpa [arr] using hown) ⟨rfl, rfl, rfl, Nat.le_refl _, fun _ _ _ => rfl⟩)
  | some ad =>
    refine wpList_append_own_wide w hgd s x 36 ho base 5 i0 (.int .u8 0) 1 1 Tryz.underlying36 hi hz0 hz1 hz2 rfl (by decide) v n xs hs hown ad len cap (arr f len).toList hx (by simp [arr_size]) ?_ ?_ (by unfold maxLen; omega) (by omega) hbase (fun v' w' h1 h2 _ => h v' w' h1 h2)
    · intro j u hj
      have hjl : j < len := by simpa [arr_size] using (List.getElem?_eq_some_iff.1 hj).1
      have e : ad = ⟨b, off, none⟩ := Option.some.inj (hB.at' (by omega))
      subst e
      rw [Addr.add_mid, hB.cell j hjl, ← arr_at f len j hjl]
      simpa using hj
    · intro u hu
      exact Array.all_eq_true_iff_forall_mem.1 (arr_one f len) u (by simpa using hu)

/-- The length of a slice. -/
def vlen : Value → Nat
  | .slice _ n _ => n
  | _ => 0

/-- The first n bytes of the message. -/
def msgL (f : Nat → Int) (len T n : Nat) : List Value := (arr (msg f len T) n).toList
theorem msgL_succ (f : Nat → Int) (len T n : Nat) : msgL f len T (n + 1) = msgL f len T n ++ [.int .u8 (msg f len T n)] := by simp [msgL, arr, List.range_succ]
theorem msgL_len (f : Nat → Int) (len T : Nat) : msgL f len T len = (arr f len).toList := by
  unfold msgL
  rw [arr_congr (msg f len T) f len (fun i hi => by simp [msg, hi])]

/-- The number of bits, in eight bytes, behind the rest. -/
theorem msgL_end (f : Nat → Int) (len T n : Nat) (hn : n + 8 = T) (hl : len < n) : msgL f len T n ++ (arr (len8 len) 8).toList = msgL f len T T := by
  unfold msgL arr
  apply List.ext_getElem?
  intro i
  by_cases h : i < n
  · rw [List.getElem?_append_left (by simpa using h)]
    simp [h, show i < T by omega]
  · rw [List.getElem?_append_right (by simp; omega)]
    by_cases h2 : i < T
    · simp only [List.length_map, List.length_range, List.getElem?_map]
      rw [List.getElem?_range (by omega), List.getElem?_range h2]
      simp only [Option.map_some]
      congr 2
      unfold msg len8
      rw [if_neg (by omega), if_neg (by omega), if_neg (by omega), if_pos h2, show 8 - 1 - (i - n) = T - 1 - i by omega]
    · rw [List.getElem?_eq_none (by simp; omega), List.getElem?_eq_none (by simp; omega)]

/-- What the loop of the chunks keeps. -/
structure Rs (w0 : World) (Z : Array Value) (g T : Nat) (cur : Array Value) (s : St) (wr : World) : Prop where
  r : Row wr w0.heap.size Z 76
  s : Row wr (w0.heap.size + 1) s.arr 199
  k : Row wr (w0.heap.size + 1 + 1) (ar4 kc 64) 198
  m : Row wr g cur 5
  mn : w0.heap.size + 1 + 1 < g
  old : Below w0.heap.size w0 wr
theorem Rs.next {w0 : World} {Z cur : Array Value} {g T : Nat} {s s' : St} {wr w2 : World} (h : Rs w0 Z g T cur s wr) (hb : Below wr.heap.size wr w2) : Rs w0 Z g T cur s' (w2.setRow (w0.heap.size + 1) s'.arr) := by
  have := h.mn
  exact ⟨(h.r.below hb h.r.lt).other (by omega), (h.s.below hb h.s.lt).setRow, (h.k.below hb h.k.lt).other (by omega), (h.m.below hb h.m.lt).other (by omega), h.mn, below_setRow (h.old.trans (hb.mono h.old.size)) (by omega) _⟩

theorem results9 : Tryz.f84.results = #[.cell 2 76] := by kernel_rfl

set_option maxHeartbeats 2000000 in
theorem refSum_any (a : Option Addr) (b off len cap q n E : Nat) (f : Nat → Int) (w : World) (hB : Bs w a b off len f) (hnone : a = none → len = 0 ∧ cap = 0) (hl : len ≤ 140737488351232)
    (hq : len = 64 * q + n) (hn : n < 64) (hE : E = if n + 9 > 64 then 2 else 1) :
    Calls Tryz.prog 84 #[.slice a len cap] w fun e w' => e = .returned (.agg (arr (dig (hs f len (64 * q + 64 * E) (q + E))) 32)) ∧ Below w.heap.size w w' := by
  obtain ⟨i0, hi0, hz0, hz1, hz2⟩ := info_parts Tryz.info5
  obtain ⟨Z, hZ⟩ : ∃ Z, Z = zeros32 := ⟨_, rfl⟩
  have hZs : Z.size = 32 := by rw [hZ]; rfl
  have hZa : Z = arr (fun _ => 0) 32 := by rw [hZ]; exact zeros32_arr
  unfold zeros32 at hZ
  have HZ : Hid _ := hZ
  have HZa : Hid _ := hZa
  clear hZ hZa
  obtain ⟨T, hT⟩ : ∃ T, T = 64 * q + 64 * E := ⟨_, rfl⟩
  obtain ⟨J, hJ⟩ : ∃ J, J = q + E := ⟨_, rfl⟩
  rw [← hT, ← hJ]
  have hT1 : len + 9 ≤ T := by rw [hT, hq, hE]; split <;> omega
  have hT2 : T ≤ len + 72 := by rw [hT, hq, hE]; split <;> omega
  have hT3 : T % 64 = 0 := by omega
  have HJ : Hid (T = 64 * J) := by show T = 64 * J; omega
  have HQ : Hid (1 ≤ E) := by show 1 ≤ E; rw [hE]; split <;> omega
  clear hT hq hE hn hJ
  have HB : Hid _ := hB
  have HBD : Hid (∀ i, 0 ≤ f i ∧ f i < 256) := hB.bd
  have HN : Hid _ := hnone
  clear hB hnone
  have hV : Row (((w.alloc (.cells Z 76)).alloc (.cells st0.arr 199)).alloc (.cells (ar4 kc 64) 198)) w.heap.size Z 76 ∧ Row (((w.alloc (.cells Z 76)).alloc (.cells st0.arr 199)).alloc (.cells (ar4 kc 64) 198)) (w.heap.size + 1) st0.arr 199 ∧
      Row (((w.alloc (.cells Z 76)).alloc (.cells st0.arr 199)).alloc (.cells (ar4 kc 64) 198)) (w.heap.size + 1 + 1) (ar4 kc 64) 198 ∧ Below w.heap.size w (((w.alloc (.cells Z 76)).alloc (.cells st0.arr 199)).alloc (.cells (ar4 kc 64) 198)) ∧ (((w.alloc (.cells Z 76)).alloc (.cells st0.arr 199)).alloc (.cells (ar4 kc 64) 198)).heap.size = w.heap.size + 1 + 1 + 1 := by
    refine ⟨((Row.new w Z 76).alloc _).alloc _, ?_, ?_, (((Below.refl _ _).alloc (Nat.le_refl _) _).alloc (by simp) _).alloc (by simp; omega) _, by simp⟩
    · have h := Row.new (w.alloc (.cells Z 76)) st0.arr 199
      rw [World.size_alloc] at h
      exact h.alloc _
    · have h := Row.new ((w.alloc (.cells Z 76)).alloc (.cells st0.arr 199)) (ar4 kc 64) 198
      rw [World.size_alloc, World.size_alloc] at h
      exact h
  have i45 := st0.arr_info45
  have o45 := st0.arr_one
  have HC := constants_any ((w.alloc (.cells Z 76)).alloc (.cells st0.arr 199))
  go_enter Tryz.func84, Tryz.ntmps84
  go_wp2_with (refine wpList_store_new rfl 199 _ _ rfl (w.alloc (.cells Z 76)) zst.arr st0.arr 199 (by rw [HZ.out]; rfl) (w.heap.size + 1) (by simp) rfl rfl i45 rfl o45 ?_)
  refine HC.mono ?_
  rintro e w1 ⟨rfl, hw1⟩
  subst hw1
  rw [show ((w.alloc (.cells Z 76)).alloc (.cells st0.arr 199)).heap.size = w.heap.size + 1 + 1 by simp]
  generalize ((w.alloc (.cells Z 76)).alloc (.cells st0.arr 199)).alloc (.cells (ar4 kc 64) 198) = V at *
  obtain ⟨rR, rH, rK, hbV, hVs⟩ := hV
  have HBV := HB.out.below hbV
  have HB1 : Hid (Bs V a b off len f) := HBV
  have HVs : Hid _ := hVs
  clear HC i45 o45 HB HBV hVs
  go_wp2_with (at_builtin; refine wpList_append_bytes rfl (.tmp 13) (.tmp 14) rfl V.heap.size _ 0 [] rfl (World.ownsRow_lit V #[] 0 (Nat.le_refl _) (by decide) rfl) a b off len cap f rfl (HB1.out.below ((Below.refl _ _).alloc (Nat.le_refl _) _)) HN.out (by omega) (by simp) ?_)
  intro v1 w1 own1 grow1
  have hb1 : Below V.heap.size V w1 := own_grown (World.ownsRow_lit V #[] 0 (Nat.le_refl _) (by decide) rfl) ((Below.refl _ _).alloc (Nat.le_refl _) _) grow1
  have hsz1 := hb1.size
  clear grow1
  go_wp2_with (at_builtin; refine wpList_append_own_wide _ rfl (.tmp 15) (.tmp 16) 36 rfl V.heap.size 5 i0 (.int .u8 0) 1 1 Tryz.underlying36 hi0 hz0 hz1 hz2 rfl (by decide) _ _ _ rfl (own1.alloc _) ⟨w1.heap.size, 0, none⟩ 1 1 [.int .u8 128] rfl rfl ?c1 ?c2 ?c3 ?c4 ?c5 ?_)
  case c1 => exact cell_one_new _ _ _
  case c2 => intro u hu; simp at hu; subst hu; rfl
  case c3 => unfold maxLen; omega
  case c4 => omega
  case c5 => simp; omega
  intro v2 w2 own2 grow2 _
  have hb2 : Below V.heap.size V w2 := own_grown (own1.alloc _) (hb1.alloc hsz1 _) grow2
  have own3 : w2.ownsRow V.heap.size 5 1 v2 (len + 1) (msgL f len T (len + 1)) := by
    rw [msgL_succ, msgL_len]
    have e : msg f len T len = 128 := by simp [msg]
    rw [e]
    simpa using own2
  clear grow2 own1 hb1 hsz1 own2
  go_wp2
  go_loopw [5] (fun v wr => ∃ n' : Nat, len + 1 ≤ n' ∧ n' + 8 ≤ T ∧ wr.ownsRow V.heap.size 5 1 v n' (msgL f len T n') ∧ Below V.heap.size V wr) (fun v _ => T - vlen v)
  case atStart => exact ⟨len + 1, Nat.le_refl _, by omega, own3, hb2⟩
  case round =>
    clear own3 hb2
    obtain ⟨n', hn1, hn2, hown, hb⟩ := hrel
    obtain ⟨_, ⟨_, hz⟩ | ⟨g, capm, cur, hv, hg⟩⟩ := id hown
    · omega
    subst hv
    by_cases hend : n' + 8 = T
    · have heq : ((n' : Int) % 64 != 56) = false := by simp; omega
      have HBy := refBytes_any ((len : Int) * 8) 8 wr (by decide) (by decide) (by omega) (by omega)
      clear hg
      go_wp2_with fail
      refine HBy.mono ?_
      rintro e w3 ⟨rfl, hb3, hsz3, hrow3⟩
      have own4 := ownsRow_below hown hb3
      have hb4 := hb.trans (hb3.mono hb.size)
      have hsz4 := hb4.size
      clear HBy hown hb hb3
      go_wp2_with (at_builtin; refine wpList_append_own_wide _ rfl (.tmp 33) (.tmp 34) 36 rfl V.heap.size 5 i0 (.int .u8 0) 1 1 Tryz.underlying36 hi0 hz0 hz1 hz2 rfl (by decide) _ _ _ rfl own4 ⟨wr.heap.size, 0, none⟩ 8 8 (arr (len8 len) 8).toList rfl ?c0 ?c1 ?c2 ?c3 ?c4 ?c5 ?_)
      case c0 => simp [arr_size]
      case c1 =>
        intro x u hx
        have hx' : x < 8 := by simpa [arr_size] using (List.getElem?_eq_some_iff.1 hx).1
        rw [Addr.add_mid, Nat.zero_add, hrow3.cell hx', ← hx]
        have e := arr_at (len8 len) 8 x hx'
        rw [Array.getElem?_toList, e, len8, Int.mul_comm]
      case c2 => intro u hu; exact Array.all_eq_true_iff_forall_mem.1 (arr_one (len8 len) 8) u (by simpa using hu)
      case c3 => unfold maxLen; omega
      case c4 => omega
      case c5 => omega
      intro v5 w5 own5 grow5 _
      have hb5 : Below V.heap.size V w5 := own_grown own4 hb4 grow5
      rw [msgL_end f len T n' hend (by omega)] at own5
      clear grow5 own4 hb4 hsz4 hrow3 hsz3
      obtain ⟨_, ⟨_, hz⟩ | ⟨gm, cm, cu, hv5, hgm, hrm, hcm, hcm2, hcs, hct⟩⟩ := own5
      · omega
      subst hv5
      have hcu : ∀ i, i < T → cu[i]? = some (.int .u8 (msg f len T i)) := fun i hi => by
        have h := congrArg (·[i]?) hct
        simp only [List.getElem?_take_of_lt (show i < T * 1 by omega)] at h
        rw [msgL, Array.getElem?_toList, Array.getElem?_toList, arr_at _ _ _ hi] at h
        exact h
      have hbw : Below w.heap.size w w5 := hbV.trans (hb5.mono hbV.size)
      have hR0 : Rs w Z gm T cu (hs f len T 0) w5 := ⟨rR.below hb5 rR.lt, rH.below hb5 rH.lt, rK.below hb5 rK.lt, hrm, by rw [HVs.out] at hgm; omega, hbw⟩
      have hcm3 : cm ≤ 9223372036854775807 := by unfold maxLen at hcm2; omega
      have HCU : Hid _ := hcu
      have hTJ : (T : Int) = 64 * (J : Int) := by have h := HJ.out; omega
      clear hcu hct hcs hcm2 hrm hgm hbw hb5 rR rH rK hbV HB1 hn1 hn2 hend heq
      go_wp2
      go_loopw [8] (fun i wr => ∃ j : Nat, j ≤ J ∧ i = .int .i64 (64 * (j : Int)) ∧ Rs w Z gm T cu (hs f len T j) wr) (fun i _ => T - (intOf i).toNat)
      case atStart => exact ⟨0, Nat.zero_le _, rfl, hR0⟩
      case round =>
        clear hR0
        obtain ⟨j, hj, rfl, hO⟩ := hrel
        by_cases hlt : j < J
        · have hjT : 64 * (j : Int) < (T : Int) := by omega
          have hcell : ∀ i, i < 64 → wr.cell? ⟨gm, 64 * j + i, none⟩ = some (.int .u8 (msg f len T (64 * j + i))) := fun i hi => by
            rw [hO.m.cell, HCU.out _ (by rw [HJ.out]; omega)]
          have HO := fun (wx : World) (hx : Below wr.heap.size wr wx) => block_any (hs f len T j) (hs_ok f len T j) gm (64 * j) (cm - 64 * j) (w.heap.size + 1 + 1) (fun i => msg f len T (64 * j + i)) wx (hO.k.below hx hO.k.lt) (by omega) (by omega)
            (fun i hi => by rw [hx.cell (p := ⟨gm, 64 * j + i, none⟩) (World.block_lt_of_cell? _ _ (hcell i hi))]; exact hcell i hi) (fun i => msg_bd f len T HBD.out _)
          obtain ⟨v, hv⟩ : ∃ v, v = hs f len T j := ⟨_, rfl⟩
          have HV : Hid (ovr (fun i => msg f len T (64 * j + i)) v = hs f len T (j + 1)) := by rw [hv]; rfl
          rw [← hv] at hO HO
          obtain ⟨c0, c1, c2, c3, c4, c5, c6, c7⟩ := hO.s.cells8
          have HO' : Hid _ := HO
          have hsl := slice_lh gm 0 T cm (64 * j) 64 (by omega) (by omega) (64 * (j : Int)) (64 * (j : Int) + 64) (by omega) (by omega)
          simp only [Nat.zero_add] at hsl
          have hw64 : IntKind.i64.wrap (64 * (j : Int) + 64) = 64 * (j : Int) + 64 := by rw [IntKind.wrap_i64]; omega
          clear HO hv hcell hTJ
          go_wp2
          go_region_with (go_at_call 147; refine (HO'.out _ (Below.refl _ _).drew).mono ?_; rintro e w2 ⟨rfl, hb2⟩; have hst := storeCells_row (C := (ovr (fun i => msg f len T (64 * j + i)) v).arr) (hO.s.drew.below hb2 hO.s.drew.lt) rfl (St.arr_one _); have hs8 := St.arr_size (ovr (fun i => msg f len T (64 * j + i)) v))
          all_goals
            have hN : Rs w Z gm T cu (ovr (fun i => msg f len T (64 * j + i)) v) (w2.setRow (w.heap.size + 1) (ovr (fun i => msg f len T (64 * j + i)) v).arr) := hO.next ((Below.refl _ _).drew.trans hb2)
            rw [HV.out] at hN
            clear hst hs8 hO
            go_wp2
            go_roundw
            case rel => exact ⟨j + 1, by omega, by go_num, by rw [HV.out]; exact hN⟩
            case measure => simp [intOf]; omega
        · obtain rfl : j = J := by omega
          have hbd : ∀ i, 0 ≤ (hs f len T j).at i ∧ (hs f len T j).at i < 4294967296 := hs_ok f len T j
          have rR := hO.r
          have rS := hO.s
          rw [St.arr_at] at rS
          have hold := hO.old
          have hnn : w.heap.size + 1 < wr.heap.size := hO.s.lt
          have rD : Row (wr.alloc (.cells Z 76)) wr.heap.size (arr (uptoW (dig (hs f len T j)) 0) 32) 76 := by
            have e : Z = arr (uptoW (dig (hs f len T j)) 0) 32 := by rw [HZa.out]; exact arr_congr _ _ _ (fun i _ => by simp [uptoW])
            rw [← e]
            exact Row.new wr Z 76
          have rR1 := rR.alloc (.cells Z 76)
          have rS1 := rS.alloc (.cells Z 76)
          have hold1 : Below w.heap.size w (wr.alloc (.cells Z 76)) := hold.alloc hold.size _
          clear hO HCU rR rS hold
          go_wp2
          rw [← HZ.out]
          generalize wr.alloc (.cells Z 76) = W6 at *
          generalize wr.heap.size = nD at *
          go_loopw [10] (fun i wx => ∃ k : Nat, k ≤ 32 ∧ i = .int .i64 k ∧ Row wx w.heap.size Z 76 ∧ Row wx (w.heap.size + 1) (ar4 (hs f len T j).at 8) 199 ∧ Row wx nD (arr (uptoW (dig (hs f len T j)) k) 32) 76 ∧ Below w.heap.size w wx) (fun i _ => 32 - (intOf i).toNat)
          case atStart => exact ⟨0, Nat.zero_le _, rfl, rR1, rS1, rD, hold1⟩
          case round =>
            clear rR1 rS1 rD hold1
            obtain ⟨k, hk, rfl, rR, rS, rD, hold⟩ := hrel
            by_cases hkl : k < 32
            · have c0 := rS.cell (k / 4)
              rw [ar4_at _ _ _ (by omega)] at c0
              have c1 := rD.cell k
              rw [arr_at _ _ _ hkl] at c1
              have z := rD.frozen k
              have hb4 := hbd (k / 4)
              generalize hx : (hs f len T j).at (k / 4) = x at *
              go_wp2
              refine ⟨⟨k + 1, by omega, by go_num, rR.setCell_other (by omega) _, rS.setCell_other (by omega) _, ?_, hold.setCell (by simp; omega) _⟩, by simp [intOf]; omega⟩
              have h := rD.setCell (i := k) (.int .u8 (x / 2 ^ (24 - 8 * (k % 4)) % 256))
              rw [arr_set (uptoW (dig (hs f len T j)) k) (uptoW (dig (hs f len T j)) (k + 1)) 32 k _ (fun i hi => by
                unfold uptoW
                by_cases e : i = k
                · rw [if_pos e, if_pos (by omega), e]
                  unfold dig byteOf
                  rw [if_pos hkl, hx, show 8 * (3 - k % 4) = 24 - 8 * (k % 4) by omega]
                · rw [if_neg e]
                  by_cases h : i < k
                  · rw [if_pos h, if_pos (by omega)]
                  · rw [if_neg h, if_neg (by omega)])] at h
              exact h
            · obtain rfl : k = 32 := by omega
              have hA : arr (uptoW (dig (hs f len T j)) 32) 32 = arr (dig (hs f len T j)) 32 := arr_congr _ _ _ (fun i hi => by simp [uptoW, hi])
              rw [hA] at rD
              have hone := arr_one (dig (hs f len T j)) 32
              have hAs := arr_size (dig (hs f len T j)) 32
              have hi23 : (Tryz.prog.info? 76).map (·.size) = some (arr (dig (hs f len T j)) 32).size := by rw [hAs]; exact info23
              clear hA
              go_wp2_with (first | refine wpList_load_row rfl 76 _ rfl _ rfl 76 (arr (dig (hs f len T j)) 32) (0, 0) _ rD Tryz.underlying76 rfl hi23 ?_ | refine wpList_store_row rfl 76 _ _ rfl w.heap.size (arr (dig (hs f len T j)) 32) rfl rfl 76 Z rR hi23 (hZs.trans hAs.symm) hone ?_)
              refine bodyPost_ret (results_cell_row results9 _ _ w.heap.size 76 _ (0, 0) _ rfl rR.setRow Tryz.underlying76 rfl hi23) rfl ⟨rfl, below_setRow hold (Nat.le_refl _) _⟩
    · have hne : ¬ (n' : Int) % 64 = 56 := by omega
      have hne' : ((n' : Int) % 64 != 56) = true := by simpa using hne
      have hsz := hb.size
      clear hg
      go_wp2_with (at_builtin; refine wpList_append_own_wide _ rfl (.tmp 22) (.tmp 23) 36 rfl V.heap.size 5 i0 (.int .u8 0) 1 1 Tryz.underlying36 hi0 hz0 hz1 hz2 rfl (by decide) _ _ _ rfl (hown.alloc _) ⟨wr.heap.size, 0, none⟩ 1 1 [.int .u8 0] rfl rfl ?c1 ?c2 ?c3 ?c4 ?c5 ?_)
      case c1 => exact cell_one_new _ _ _
      case c2 => intro u hu; simp at hu; subst hu; rfl
      case c3 => unfold maxLen; omega
      case c4 => omega
      case c5 => simp; omega
      intro v3 w3 own3 grow3 _
      have hb3 : Below V.heap.size V w3 := own_grown (hown.alloc _) (hb.alloc hsz _) grow3
      have own4 : w3.ownsRow V.heap.size 5 1 v3 (n' + 1) (msgL f len T (n' + 1)) := by
        rw [msgL_succ]
        have e : msg f len T n' = 0 := by
          unfold msg
          rw [if_neg (by omega), if_neg (by omega), if_pos (by omega)]
        rw [e]
        exact own3
      have hvl : vlen v3 = n' + 1 := by
        obtain ⟨_, ⟨_, hz⟩ | ⟨g3, cap3, cur3, hv3, _⟩⟩ := own4
        · omega
        · rw [hv3]; rfl
      clear grow3 own3 hown hb
      go_wp2
      go_roundw
      case rel => exact ⟨n' + 1, by omega, by omega, own4, hb3⟩
      case measure =>
        rw [hvl]
        show T - (n' + 1) < T - n'
        omega
end Go.Proofs.YtppgidmeeaodkaaGreatDoor.S2
